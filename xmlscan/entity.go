package xmlscan

import (
	"slices"
	"strings"
	"unicode/utf8"

	"stencil/api"
	"stencil/xchar"
)

// entity is one that was declared: its text as it stands there, as references in it are looked up where it is used.
type entity struct {
	text string
}

// entity reads a declaration behind its <!ENTITY.
func (r *reader) entity() bool {
	if !r.blanks() {
		return false
	}
	name := r.name()
	if name == "" || !r.blanks() {
		return false
	}
	text, ok := r.quoted()
	if !ok || !isEntityText(text) {
		return false
	}
	r.blanks()
	if !r.take(">") {
		return false
	}
	if _, known := r.entities[name]; !known {
		r.entities[name] = entity{text}
	}
	return true
}

func isEntityText(s string) bool {
	if strings.ContainsAny(s, "<%") {
		return false
	}
	for at, c := range s {
		if c == '&' && readReference(s[at:]).size == 0 {
			return false
		}
	}
	return true
}

// reference is a character, or a name of something; its size is 0, if it is none.
type reference struct {
	said string // what it comes to; empty of an entity that is declared
	name string
	size int
}

// readReference reads one from its & on.
func readReference(s string) reference {
	if digits, ok := strings.CutPrefix(s, "&#x"); ok {
		return readNumber(digits, 16, len("&#x"))
	}
	if digits, ok := strings.CutPrefix(s, "&#"); ok {
		return readNumber(digits, 10, len("&#"))
	}
	name := nameAhead(s[len("&"):])
	if name == "" || !strings.HasPrefix(s[len("&"+name):], ";") {
		return reference{}
	}
	return reference{ofTheFive(name), name, len("&" + name + ";")}
}

// readNumber reads a reference's digits; ahead is how many bytes stand ahead of them.
func readNumber(s string, base, ahead int) reference {
	char := 0
	for at, c := range s {
		digit := strings.IndexRune("0123456789abcdef", c)
		if 'A' <= c && c <= 'F' {
			digit = int(c-'A') + 10
		}
		switch {
		case c == ';' && xchar.IsChar(rune(char)): // no digits are 0, which may not be
			return reference{said: string(rune(char)), size: ahead + at + len(";")}
		case digit < 0 || digit >= base:
			return reference{}
		}
		// A number of any length stays one that is too great.
		char = min(char*base+digit, utf8.MaxRune+1)
	}
	return reference{}
}

func ofTheFive(name string) string {
	switch name {
	case "lt":
		return "<"
	case "gt":
		return ">"
	case "amp":
		return "&"
	case "apos":
		return "'"
	case "quot":
		return `"`
	}
	return ""
}

// reference reads one in the document, and adds what it comes to; flat: its blanks are spaces.
func (r *reader) reference(text *[]byte, flat bool) bool {
	found := readReference(r.rest())
	if found.size == 0 {
		return r.fail(api.ErrForm, r.at)
	}
	x := expansion{reader: r, flat: flat, text: *text}
	if e := x.add(found); e != api.OK {
		return r.fail(e, r.at)
	}
	*text = x.text
	r.at += found.size
	return true
}

// expansion is what one reference of the document comes to, with the entities that are open in it.
type expansion struct {
	reader *reader
	flat   bool
	text   []byte
	open   []string
}

func (x *expansion) add(found reference) api.Errno {
	if found.said != "" {
		x.text = append(x.text, found.said...)
		return x.spend(len(found.said) + 1)
	}
	inner, declared := x.reader.entities[found.name]
	if !declared {
		return api.ErrForm
	}
	if len(x.open) > api.MaxExpand || slices.Contains(x.open, found.name) {
		return api.ErrLimit
	}
	if e := x.spend(1); e != api.OK {
		return e
	}
	x.open = append(x.open, found.name)
	e := x.addText(inner.text)
	x.open = x.open[:len(x.open)-1]
	return e
}

func (x *expansion) addText(s string) api.Errno {
	for s != "" {
		plain, _, _ := strings.Cut(s, "&")
		if e := x.spend(len(plain)); e != api.OK {
			return e
		}
		s = s[len(plain):]
		if x.flat {
			plain = spaced(plain)
		}
		x.text = append(x.text, plain...)
		if s == "" {
			return api.OK
		}
		found := readReference(s)
		if e := x.add(found); e != api.OK {
			return e
		}
		s = s[found.size:]
	}
	return api.OK
}

// spend counts bytes that come from entities; what stands in the document itself costs nothing.
func (x *expansion) spend(bytes int) api.Errno {
	if len(x.open) == 0 {
		return api.OK
	}
	x.reader.spent += bytes
	if x.reader.spent > api.MaxText {
		return api.ErrLimit
	}
	return api.OK
}
