package xout

import (
	"iter"
	"strings"

	"stencil/api"
	"stencil/xmlscan"
)

// spot is a token among those next to it, which are of NoKind at the ends.
type spot struct {
	api.Token
	ahead, behind api.Token
}

func spots(l []api.Token) iter.Seq[spot] {
	return func(yield func(spot) bool) {
		for i, t := range l {
			s := spot{Token: t}
			if i > 0 {
				s.ahead = l[i-1]
			}
			if i+1 < len(l) {
				s.behind = l[i+1]
			}
			if !yield(s) {
				return
			}
		}
	}
}

// writer writes the tokens of a tree, part behind part.
type writer struct {
	strings.Builder
}

// by is how a token is written by a method.
func (w *writer) by(m api.Method) func(spot) {
	switch m {
	case api.Html:
		return w.html
	case api.Plain:
		return w.plain
	}
	return w.xml
}

func (w *writer) all(l []api.Token, one func(spot)) {
	for s := range spots(l) {
		one(s)
	}
}

func (w *writer) put(parts ...string) {
	for _, part := range parts {
		w.WriteString(part)
	}
}

func (w *writer) plain(s spot) {
	if s.Kind == api.Text {
		w.put(s.Text)
	}
}

func (w *writer) xml(s spot) {
	switch {
	case s.Kind == api.Element && s.behind.Kind == api.End:
		w.tag(s.Token, w.attribute, "/>")
	case s.Kind == api.End && s.ahead.Kind == api.Element: // its tag has ended it
	case s.Kind == api.Pi:
		w.instruction(s.Token, "?>")
	default:
		w.common(s.Token, w.attribute)
	}
}

func (w *writer) html(s spot) {
	switch {
	case s.Kind == api.End && Void(s.Name):
	case s.Kind == api.Text && s.isRaw():
		w.put(s.Text)
	case s.Kind == api.Pi:
		w.instruction(s.Token, ">")
	default:
		w.common(s.Token, w.htmlAttribute)
	}
}

// common writes what xml and html write alike, but for attributes.
func (w *writer) common(t api.Token, attribute func(api.Pair)) {
	switch t.Kind {
	case api.Element:
		w.tag(t, attribute, ">")
	case api.End:
		w.put("</", t.Name, ">")
	case api.Text:
		w.put(xmlscan.Escape(t.Text))
	case api.Comment:
		w.put("<!--", t.Text, "-->")
	}
}

func (w *writer) tag(t api.Token, attribute func(api.Pair), last string) {
	w.put("<", t.Name)
	for _, a := range t.Attrs {
		attribute(a)
	}
	w.put(last)
}

func (w *writer) attribute(a api.Pair) {
	w.put(" ", a.Name, `="`, xmlscan.Quote(a.Value), `"`)
}

func (w *writer) htmlAttribute(a api.Pair) {
	if Short(a.Name) && a.Value == a.Name {
		w.put(" ", a.Name)
		return
	}
	value := strings.ReplaceAll(a.Value, "&", "&amp;")
	w.put(" ", a.Name, `="`, strings.ReplaceAll(value, `"`, "&quot;"), `"`)
}

func (w *writer) instruction(t api.Token, last string) {
	w.put("<?", t.Name)
	if t.Text != "" {
		w.put(" ", t.Text)
	}
	w.put(last)
}
