package xchar

import (
	"strings"
	"unicode/utf8"

	"stencil/api"
)

// The byte order marks, as they stand in bytes.
const (
	markWide     = "\xfe\xff"
	markReversed = "\xff\xfe"
	markNarrow   = "\xef\xbb\xbf"
)

// Decode is bytes as a text, its lines ended by line feeds; or the place of the byte that is wrong.
func Decode(b []byte) (string, api.Errno, int) {
	if len(b) > api.MaxText {
		return "", api.ErrLimit, 0
	}
	s, e, at := decodeAny(string(b))
	if e != api.OK {
		return "", e, at
	}
	return endLines(s), api.OK, 0
}

func decodeAny(b string) (string, api.Errno, int) {
	switch {
	case strings.HasPrefix(b, markWide):
		return decodeWide(b, 0)
	case strings.HasPrefix(b, markReversed):
		return decodeWide(b, 1)
	}
	s := strings.TrimPrefix(b, markNarrow)
	e, at := firstFault(s)
	// Places are told in the bytes as they came, with the mark.
	return s, e, at + len(b) - len(s)
}

// decodeWide reads UTF-16 behind its mark; high is the place of the higher byte in two.
func decodeWide(b string, high int) (string, api.Errno, int) {
	var text []byte
	for at := len(markWide); at < len(b); {
		r, size := firstWide(b[at:], high)
		if size == 0 {
			return "", api.ErrUtf, at
		}
		if !IsChar(r) {
			return "", api.ErrChar, at
		}
		text = utf8.AppendRune(text, r)
		at += size
	}
	return string(text), api.OK, 0
}

// firstWide is the first character of UTF-16, and how many bytes it takes: 0, if none can be read.
func firstWide(b string, high int) (rune, int) {
	if len(b) < 2 {
		return 0, 0
	}
	first := unitOf(b, high)
	if !within(first, complex(0xd800, 0xdfff)) {
		return first, 2
	}
	if len(b) < 4 {
		return 0, 0
	}
	pair := complex(float64(first), float64(unitOf(b[2:], high)))
	if !isPair(pair) {
		return 0, 0
	}
	return joinPair(pair), 4
}

func unitOf(b string, high int) rune {
	return rune(b[high])<<8 | rune(b[1-high])
}

// A pair of surrogates is one number: its real part the leading one, its imaginary part the trailing one.

func isPair(pair complex128) bool {
	return within(rune(real(pair)), complex(0xd800, 0xdbff)) &&
		within(rune(imag(pair)), complex(0xdc00, 0xdfff))
}

func joinPair(pair complex128) rune {
	offset := pair - complex(0xd800, 0xdc00)
	return 0x10000 + rune(real(offset))<<10 + rune(imag(offset))
}

func splitPair(r rune) complex128 {
	offset := r - 0x10000
	return complex(0xd800, 0xdc00) + complex(float64(offset>>10), float64(offset&0x3ff))
}

// firstFault is the first error of what should be UTF-8 of characters that may be, and its place.
func firstFault(s string) (api.Errno, int) {
	for at, r := range s {
		// The same rune stands for bytes that are none, and for the character fffd, which may be.
		if r == utf8.RuneError && !strings.HasPrefix(s[at:], string(utf8.RuneError)) {
			return api.ErrUtf, at
		}
		if !IsChar(r) {
			return api.ErrChar, at
		}
	}
	return api.OK, 0
}

func endLines(s string) string {
	return strings.ReplaceAll(strings.ReplaceAll(s, "\r\n", "\n"), "\r", "\n")
}

// Encode is a text as bytes, in UTF-16 or UTF-8.
func Encode(s string, wide bool) ([]byte, api.Errno) {
	if !utf8.ValidString(s) {
		return nil, api.ErrUtf
	}
	if len(s) > api.MaxText {
		return nil, api.ErrLimit
	}
	if !wide {
		return []byte(s), api.OK
	}
	return encodeWide(s), api.OK
}

func encodeWide(s string) []byte {
	b := []byte(markWide)
	for _, r := range s {
		if r < 0x10000 {
			b = appendUnit(b, r)
			continue
		}
		pair := splitPair(r)
		b = appendUnit(b, rune(real(pair)))
		b = appendUnit(b, rune(imag(pair)))
	}
	return b
}

func appendUnit(b []byte, unit rune) []byte {
	return append(b, byte(unit>>8), byte(unit))
}
