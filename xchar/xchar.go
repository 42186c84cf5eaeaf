// Package xchar is characters, encodings, names. See ../../shared/doc/01-xchar.md.
package xchar

import (
	"strings"
	"unicode/utf8"

	"stencil/api"
)

// IsChar, IsBlank tell whether a character may be, is a blank; Begins, GoesOn whether it may begin names, go on in them.
func IsChar(r rune) bool {
	return r == '\t' || r == '\n' || r == '\r' ||
		within(r, complex(0x20, 0xd7ff)) ||
		within(r, complex(0xe000, 0xfffd)) ||
		within(r, complex(0x10000, 0x10ffff))
}

func IsBlank(r rune) bool {
	return r == ' ' || r == '\t' || r == '\n' || r == '\r'
}

func Begins(r rune) bool {
	ranges := [...]complex128{
		complex('A', 'Z'), complex('_', '_'), complex('a', 'z'),
		complex(0xc0, 0xd6), complex(0xd8, 0xf6), complex(0xf8, 0x2ff),
		complex(0x370, 0x37d), complex(0x37f, 0x1fff), complex(0x200c, 0x200d),
		complex(0x2070, 0x218f), complex(0x2c00, 0x2fef), complex(0x3001, 0xd7ff),
		complex(0xf900, 0xfdcf), complex(0xfdf0, 0xfffd), complex(0x10000, 0xeffff),
	}
	for _, ends := range ranges {
		if within(r, ends) {
			return true
		}
	}
	return false
}

func GoesOn(r rune) bool {
	return r == '-' || r == '.' || r == 0xb7 ||
		within(r, complex('0', '9')) ||
		within(r, complex(0x300, 0x36f)) ||
		within(r, complex(0x203f, 0x2040)) ||
		Begins(r)
}

// within takes both ends of a range as one number, so that no end is ever parted from its other one.
func within(r rune, ends complex128) bool {
	at := float64(r)
	return real(ends) <= at && at <= imag(ends)
}

// IsText tells whether a text is UTF-8 of characters that may be; IsName whether one is a name; Split is a QName's prefix and local name.
func IsText(s string) bool {
	e, _ := firstFault(s)
	return e == api.OK
}

func IsName(s string) bool {
	// A byte that is no UTF-8 would be ranged over as fffd, which may stand in names.
	if s == "" || !utf8.ValidString(s) {
		return false
	}
	for at, r := range s {
		if at == 0 && !Begins(r) || !GoesOn(r) {
			return false
		}
	}
	return true
}

func Split(s string) (prefix, local string, ok bool) {
	prefix, local, two := strings.Cut(s, ":")
	if !two {
		prefix, local = "", s
	}
	if two && !IsName(prefix) || !IsName(local) {
		return "", "", false
	}
	return prefix, local, true
}

// Count is how many characters a text has; Cut those from one to another.
func Count(s string) int {
	n := 0
	for range s {
		n++
	}
	return n
}

func Cut(s string, from, to int) string {
	from = max(from, 0)
	if to <= from {
		return ""
	}
	first, end := len(s), len(s)
	place := 0
	for at := range s {
		if place == from {
			first = at
		}
		if place == to {
			end = at
			break
		}
		place++
	}
	return s[first:end]
}

// Trim is a text without blanks at its ends, and with one space for those within.
func Trim(s string) string {
	return strings.Join(strings.FieldsFunc(s, IsBlank), " ")
}
