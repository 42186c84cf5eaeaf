package xmlscan

import (
	"strings"

	"stencil/api"
	"stencil/xchar"
)

// document reads all of the text.
func (r *reader) document() bool {
	typed, rooted, ok := false, false, true
	if behind, marked := strings.CutPrefix(r.text, "<?"); marked && nameAhead(behind) == "xml" {
		ok = r.declaration()
	}
next:
	if !ok {
		return false
	}
	r.blanks()
	switch {
	case r.sees("<!--"):
		ok = r.tellComment()
		goto next
	case r.sees("<?"):
		ok = r.tellInstruction()
		goto next
	case r.sees("<!DOCTYPE") && !typed && !rooted:
		typed, ok = true, r.doctype()
		goto next
	case r.sees("<") && !rooted:
		rooted, ok = true, r.startTag() && r.content()
		goto next
	case r.at < len(r.text) || !rooted:
		return r.fail(api.ErrForm, r.at)
	}
	return true
}

func (r *reader) declaration() bool {
	return r.settings() || r.fail(api.ErrForm, 0)
}

// settings reads the XML declaration, which stands at the very beginning.
func (r *reader) settings() bool {
	r.at = len("<?xml")
	if !r.blanks() || !r.setting("version", isVersion) {
		return false
	}
	// What is left out takes its blanks with it, so those ahead of the next one may be those ahead of the end.
	spaced := r.blanks()
	if spaced && r.sees("encoding") {
		if !r.setting("encoding", isEncoding) {
			return false
		}
		spaced = r.blanks()
	}
	if spaced && r.sees("standalone") {
		if !r.setting("standalone", isChoice) {
			return false
		}
		r.blanks()
	}
	return r.take("?>")
}

func (r *reader) setting(name string, right func(string) bool) bool {
	if !r.take(name) || !r.equals() {
		return false
	}
	value, ok := r.quoted()
	return ok && right(value)
}

func isVersion(s string) bool {
	digits, ok := strings.CutPrefix(s, "1.")
	return ok && digits != "" && strings.Trim(digits, "0123456789") == ""
}

func isEncoding(s string) bool {
	for at, c := range s {
		letter := 'a' <= c && c <= 'z' || 'A' <= c && c <= 'Z'
		if !letter && (at == 0 || !strings.ContainsRune("0123456789._-", c)) {
			return false
		}
	}
	return s != ""
}

func isChoice(s string) bool {
	return s == "yes" || s == "no"
}

// doctype reads the document type; what stands in it is told as no token.
func (r *reader) doctype() bool {
	from := r.at
	r.take("<!DOCTYPE")
	if !r.blanks() || r.qname() == "" {
		return r.fail(api.ErrForm, from)
	}
	r.blanks()
	if r.take("[") && !r.declarations() {
		return false
	}
	r.blanks()
	return r.take(">") || r.fail(api.ErrForm, from)
}

// declarations reads those of a document type, and the ] behind them.
func (r *reader) declarations() bool {
	from, ok := r.at, true
next:
	if !ok {
		goto wrong
	}
	r.blanks()
	from = r.at
	switch {
	case r.take("]"):
		return true
	case r.sees("<!--"):
		_, ok = r.comment()
		goto next
	case r.sees("<?"):
		_, _, ok = r.instruction()
		goto next
	case r.take("<!ENTITY"):
		ok = r.entity()
		goto next
	}
wrong:
	return r.fail(api.ErrForm, from)
}

// comment reads one, and is its text.
func (r *reader) comment() (string, bool) {
	r.take("<!--")
	text, ok := r.takeTo("--")
	return text, ok && r.take(">")
}

func (r *reader) tellComment() bool {
	from := r.at
	text, ok := r.comment()
	if !ok {
		return r.fail(api.ErrForm, from)
	}
	return r.tell(api.Token{Kind: api.Comment, Text: text}, from)
}

// instruction reads a processing instruction, and is its name and text.
func (r *reader) instruction() (name, text string, ok bool) {
	r.take("<?")
	name = r.name()
	if !isTarget(name) {
		return "", "", false
	}
	if r.take("?>") {
		return name, "", true
	}
	if !r.blanks() {
		return "", "", false
	}
	text, ok = r.takeTo("?>")
	return name, text, ok
}

// isTarget tells whether a processing instruction may have that name.
func isTarget(name string) bool {
	return xchar.IsName(name) && !strings.EqualFold(name, "xml")
}

func (r *reader) tellInstruction() bool {
	from := r.at
	name, text, ok := r.instruction()
	if !ok {
		return r.fail(api.ErrForm, from)
	}
	return r.tell(api.Token{Kind: api.Pi, Name: name, Text: text}, from)
}
