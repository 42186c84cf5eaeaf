package xmlscan

import (
	"strings"

	"stencil/api"
	"stencil/xchar"
)

// content reads what stands in the elements that are open, up to the end of the outermost one.
func (r *reader) content() bool {
	ok := true
next:
	switch {
	case !ok || len(r.open) == 0:
		return ok
	case r.sees("</"):
		ok = r.endTag()
		goto next
	case r.sees("<!--"):
		ok = r.tellComment()
		goto next
	case r.sees("<![CDATA["):
		ok = r.section()
		goto next
	case r.sees("<?"):
		ok = r.tellInstruction()
		goto next
	case r.sees("<"):
		ok = r.startTag()
		goto next
	case r.sees("&"):
		ok = r.reference(&r.run, false) && r.roomForRun()
		goto next
	case r.at < len(r.text) && !r.sees("]]>"):
		ok = r.plain()
		goto next
	}
	return r.fail(api.ErrForm, r.at)
}

// plain reads text up to what may be something else.
func (r *reader) plain() bool {
	text := r.rest()
	for _, sign := range [...]string{"<", "&", "]]>"} {
		text, _, _ = strings.Cut(text, sign)
	}
	r.at += len(text)
	r.run = append(r.run, text...)
	return r.roomForRun()
}

// section reads a CDATA.
func (r *reader) section() bool {
	from := r.at
	r.take("<![CDATA[")
	text, ok := r.takeTo("]]>")
	if !ok {
		return r.fail(api.ErrForm, from)
	}
	r.run = append(r.run, text...)
	return r.roomForRun()
}

func (r *reader) endTag() bool {
	from := r.at
	r.take("</")
	name := r.qname()
	r.blanks()
	inner := len(r.open) - 1
	if name != r.open[inner] || !r.take(">") {
		return r.fail(api.ErrForm, from)
	}
	r.open = r.open[:inner]
	return r.tell(api.Token{Kind: api.End, Name: name}, from)
}

// startTag reads a start tag, or the tag of an empty element, whose end it tells too.
func (r *reader) startTag() bool {
	from := r.at
	r.take("<")
	name := r.qname()
	if name == "" {
		return r.fail(api.ErrForm, from)
	}
	attrs, ok := r.attributes(from)
	if !ok {
		return false
	}
	empty := r.take("/")
	if !r.take(">") {
		return r.fail(api.ErrForm, from)
	}
	if len(r.open) == api.MaxDeep || len(attrs) > api.MaxAttrs {
		return r.fail(api.ErrLimit, from)
	}
	if !r.tell(api.Token{Kind: api.Element, Name: name, Attrs: attrs}, from) {
		return false
	}
	if empty {
		return r.tell(api.Token{Kind: api.End, Name: name}, from)
	}
	r.open = append(r.open, name)
	return true
}

// attributes reads those of the tag that begins at a place, up to what ends it.
func (r *reader) attributes(tag int) ([]api.Pair, bool) {
	var attrs []api.Pair
	places := map[string]int{}
	for r.blanks() && !r.sees("/") && !r.sees(">") {
		name := r.qname()
		if _, twice := places[name]; name == "" || twice || !r.equals() {
			return nil, r.fail(api.ErrForm, tag)
		}
		places[name] = len(attrs)
		value, ok := r.value(tag)
		if !ok {
			return nil, false
		}
		attrs = append(attrs, api.Pair{Name: name, Value: value})
	}
	return attrs, true
}

// value reads an attribute's text from its left to its right, so that of several errors the first one is told.
func (r *reader) value(tag int) (string, bool) {
	var text []byte
	sign, ok := r.quote()
	if !ok {
		goto wrong
	}
next:
	if plain := strings.IndexAny(r.rest(), "<&"+sign); plain >= 0 {
		text = append(text, spaced(r.rest()[:plain])...)
		r.at += plain
	}
	switch {
	case r.take(sign):
		return string(text), true
	case !r.sees("&"):
		goto wrong
	case r.reference(&text, true):
		goto next
	}
	return "", false
wrong:
	return "", r.fail(api.ErrForm, tag)
}

// spaced is a text with each of its blanks as a space.
func spaced(s string) string {
	return strings.Map(func(c rune) rune {
		if xchar.IsBlank(c) {
			return ' '
		}
		return c
	}, s)
}
