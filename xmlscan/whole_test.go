package xmlscan_test

import (
	"encoding/xml"
	"fmt"
	"io"
	"math/rand"
	"reflect"
	"strings"
	"testing"

	"stencil/api"
	"stencil/xmlscan"
)

// maker makes documents by chance, with the tokens that they come to.
type maker struct {
	*rand.Rand
}

func (m maker) pick(l ...string) string { return l[m.Intn(len(l))] }

func (m maker) name() string {
	return m.pick("a", "b", "a:b", "é", "_x", "c-1.2", "xmlns", "xmlns:p", "xml:a")
}

func (m maker) text() string {
	s := ""
	for range 1 + m.Intn(5) {
		s += m.pick("x", "yz", " ", "\t", "\n", "\r", "&", "<", ">", "\"", "'", "]]>", "]", "-", "--", "?>", "?", "é", "😀", "\ufffd", "&amp;", "&#65;", "%", "=")
	}
	return s
}

func (m maker) leaf() api.Token {
	if m.Intn(2) == 0 {
		s := strings.Trim(strings.ReplaceAll(m.text(), "-", "_"), "-")
		return comment(s)
	}
	s := strings.TrimLeft(strings.ReplaceAll(m.text(), "?>", "!"), " \t\n\r")
	return instr(m.pick("p", "xmlx", "é"), strings.ReplaceAll(s, "?>", "!"))
}

// content is tokens within an element.
func (m maker) content(deep int) []api.Token {
	var l []api.Token
	worded := false
	for range m.Intn(5) {
		switch kind := m.Intn(4); {
		case kind == 0 && !worded:
			l = append(l, text(m.text()))
			worded = true
			continue
		case kind == 1:
			l = append(l, m.leaf())
		case deep < 4:
			l = append(l, m.element(deep+1)...)
		default:
			continue
		}
		worded = false
	}
	return l
}

func (m maker) element(deep int) []api.Token {
	x := element(m.name())
	known := map[string]bool{}
	for range m.Intn(4) {
		if name := m.name(); !known[name] {
			known[name] = true
			x.Attrs = append(x.Attrs, api.Pair{Name: name, Value: m.pick("", m.text(), m.text())})
		}
	}
	return append(append([]api.Token{x}, m.content(deep)...), end(x.Name))
}

func (m maker) document() []api.Token {
	var l []api.Token
	for range m.Intn(3) {
		l = append(l, m.leaf())
	}
	l = append(l, m.element(1)...)
	for range m.Intn(3) {
		l = append(l, m.leaf())
	}
	return l
}

// The ways in which one document may be written.

func (m maker) blanks() string { return m.pick("", "", " ", "\n", "\t\r") }

func (m maker) some() string { return m.pick(" ", "\n", "\t ", "\r\n") }

func (m maker) char(c rune) string {
	return m.pick(fmt.Sprintf("&#%d;", c), fmt.Sprintf("&#x%x;", c), fmt.Sprintf("&#x%X;", c), fmt.Sprintf("&#00%d;", c))
}

// words writes a text, by references where it must; quote is the sign around an attribute.
func (m maker) words(s, quote string) string {
	out := ""
	for _, c := range s {
		five := map[rune]string{'<': "&lt;", '>': "&gt;", '&': "&amp;", '\'': "&apos;", '"': "&quot;"}[c]
		blank := strings.ContainsRune("\t\n\r", c)
		switch way := m.Intn(8); {
		case way == 0:
			out += m.char(c)
		case way == 1 && quote == "" && c != '>' && c != ']':
			out += "<![CDATA[" + string(c) + "]]>"
		case way == 2 && c == 'x':
			out += "&ex;"
		case way == 3 && c == '<':
			out += m.pick("&el;", "&ee;")
		case quote != "" && c == ' ':
			out += m.pick(" ", "\n", "\t", "\r", "&es;")
		case quote != "" && (blank || string(c) == quote):
			out += m.char(c)
		case c == '<' || c == '&' || quote == "" && c == '>' || way < 5 && five != "":
			out += five
		default:
			out += string(c)
		}
	}
	return out
}

func (m maker) write(l []api.Token) string {
	s := m.pick("", "<?xml version='1.0'?>", "<?xml  version = \"1.1\" encoding='x' ?>") + m.blanks()
	s += "<!DOCTYPE a" + m.blanks() + "[" + m.pick("", "<!--<!ENTITY ex 'no'>-->") + "<!ENTITY ex 'x'><!ENTITY el '&#60;'>" + m.pick("", "<?p <!ENTITY ex 'no'>?>") +
		"<!ENTITY ee '&el;'><!ENTITY ex 'no'><!ENTITY es '\n'>" + m.blanks() + "]" + m.blanks() + ">"
	open := 0
	for i := 0; i < len(l); i++ {
		if open == 0 {
			s += m.blanks()
		}
		switch x := l[i]; x.Kind {
		case api.Element:
			s += "<" + x.Name
			for _, a := range x.Attrs {
				quote := m.pick(`"`, `'`)
				s += m.some() + a.Name + m.blanks() + "=" + m.blanks() + quote + m.words(a.Value, quote) + quote
			}
			s += m.blanks()
			if l[i+1].Kind == api.End && m.Intn(2) == 0 {
				s += "/>"
				i++
				continue
			}
			s += ">"
			open++
		case api.End:
			s += "</" + x.Name + m.blanks() + ">"
			open--
		case api.Text:
			s += m.words(x.Text, "")
		case api.Comment:
			s += "<!--" + x.Text + "-->"
		case api.Pi:
			s += "<?" + x.Name
			if x.Text != "" {
				s += m.some()
			}
			s += x.Text + "?>"
		}
	}
	return s + m.blanks()
}

func TestThereAndBack(t *testing.T) { // P3.1, P3.2, P3.3, P3.4 (E1, E6)
	m := maker{rand.New(rand.NewSource(3))}
	for range 4000 {
		l := m.document()
		s, e := xmlscan.Write(l...)
		if e != api.OK {
			t.Fatal(show(l), e)
		}
		for _, way := range []string{s, m.write(l), m.write(l)} {
			got, e, at := xmlscan.Scan(way)
			if e != api.OK || at != 0 || !reflect.DeepEqual(got, l) {
				t.Fatalf("%q: %d, %d, %s, want %s", way, e, at, show(got), show(l))
			}
			if again, e := xmlscan.Write(got...); e != api.OK || again != s {
				t.Fatalf("%q is written as %q, want %q", way, again, s)
			}
		}
	}
}

func TestCutShort(t *testing.T) { // P3.5: of a document that ends with its element
	m := maker{rand.New(rand.NewSource(4))}
	for range 200 {
		s := m.write(m.element(1))
		s = strings.TrimRight(s, " \t\r\n")
		for at := range s {
			l, e, place := xmlscan.Scan(s[:at])
			if e != api.ErrForm || place > at || l != nil {
				t.Fatalf("%q: %d, %d", s[:at], e, place)
			}
		}
		// In the midst of a character it is the character that is wrong.
		for at := 1; at < len(s); at++ {
			if _, e, _ := xmlscan.Scan(s[:at]); e != api.ErrForm && e != api.ErrChar {
				t.Fatalf("%q: %d", s[:at], e)
			}
		}
	}
}

// library is what the library's reader tells of a text, in the same short form; false, if it is none of one element.
func library(s string) (string, bool) {
	d := xml.NewDecoder(strings.NewReader(s))
	var l []api.Token
	open, roots := 0, 0
	words := func(more string) bool {
		if open == 0 {
			return strings.Trim(more, " \n") == "" // blanks beside the element
		}
		if n := len(l); more != "" && l[n-1].Kind == api.Text {
			l[n-1].Text += more
		} else if more != "" {
			l = append(l, text(more))
		}
		return true
	}
	for {
		x, err := d.RawToken()
		if err == io.EOF {
			return show(l), roots == 1 && open == 0
		}
		if err != nil {
			return "", false
		}
		switch x := x.(type) {
		case xml.StartElement:
			l = append(l, element(x.Name.Local))
			for _, a := range x.Attr {
				if len(l[len(l)-1].Attrs) > 0 {
					return "", false // the alphabet has one attribute's name alone
				}
				l[len(l)-1].Attrs = []api.Pair{{Name: a.Name.Local, Value: a.Value}}
			}
			if open++; open == 1 {
				roots++
			}
		case xml.EndElement:
			names := []string{}
			for _, y := range l {
				if y.Kind == api.Element {
					names = append(names, y.Name)
				} else if y.Kind == api.End {
					names = names[:len(names)-1]
				}
			}
			if open--; open < 0 || names[len(names)-1] != x.Name.Local {
				return "", false
			}
			l = append(l, end(x.Name.Local))
		case xml.CharData:
			if !words(string(x)) {
				return "", false
			}
		case xml.Comment:
			l = append(l, comment(string(x)))
		case xml.ProcInst:
			l = append(l, instr(x.Target, string(x.Inst)))
		default:
			return "", false
		}
	}
}

func TestAgainstLibrary(t *testing.T) { // P3.1 (E6): all short rows of pieces, and longer ones by chance
	pieces := []string{"<a>", "</a>", "<b/>", "<b", " c='", "'", ">", "/>", "x", " ", "<!--", "-->", "-", "<?p ", "?>", "&lt;", "&#65;", "&", "]]>"}
	check := func(s string) {
		want, ok := library(s)
		l, e, _ := xmlscan.Scan(s)
		if (e == api.OK) != ok || ok && show(l) != want {
			t.Errorf("Scan(%q) = %s, %d; the library: %s, %v", s, show(l), e, want, ok)
		}
	}
	var all func(s string, n int)
	all = func(s string, n int) {
		check(s)
		for _, x := range pieces {
			if n > 0 {
				all(s+x, n-1)
			}
		}
	}
	all("", 3)
	all("<a>", 3)
	chance := rand.New(rand.NewSource(5))
	for range 60000 {
		s := ""
		for range 2 + chance.Intn(8) {
			s += pieces[chance.Intn(len(pieces))]
		}
		check("<a>" + s + "</a>")
	}
}

func TestAnyTexts(t *testing.T) { // P1, P2, P3.4, P6: what is spoilt by chance, and texts of any bytes
	m := maker{rand.New(rand.NewSource(6))}
	pieces := []string{"<", ">", "&", ";", "'", "\"", "]]>", "<!--", "--", "-->", "<?", "?>", "<![CDATA[", "<!DOCTYPE a [", "]", "<!ENTITY e '", "\x00", "\xff", "\xe2", "&e;", "/", "=", " ", "</"}
	texts := oddTexts()
	for range 6000 {
		s := m.write(m.document())
		for range 1 + m.Intn(3) {
			from := m.Intn(len(s) + 1)
			to := min(len(s), from+m.Intn(3))
			s = s[:from] + m.pick(pieces...) + s[to:]
		}
		texts = append(texts, s)
	}
	for _, s := range texts {
		l, e, at := xmlscan.Scan(s)
		l2, e2, at2 := xmlscan.Scan(s)
		if e != e2 || at != at2 || !reflect.DeepEqual(l, l2) || at < 0 || at > len(s) {
			t.Fatalf("%q: %d, %d, then %d, %d", s, e, at, e2, at2)
		}
		if e != api.OK {
			if len(l) != 0 || e != api.ErrForm && e != api.ErrChar && e != api.ErrLimit {
				t.Fatalf("%q: %s, %d", s, show(l), e)
			}
			continue
		}
		written, e := xmlscan.Write(l...)
		if again, e2, _ := xmlscan.Scan(written); at != 0 || e != api.OK || e2 != api.OK || !reflect.DeepEqual(again, l) {
			t.Fatalf("%q: %d, %d, %s, then %s", s, e, e2, show(l), show(again))
		}
	}
}

func TestTokensAreTheCallers(t *testing.T) { // P3: what is answered lies in nothing that is kept or answered again
	s := "<!DOCTYPE a [<!ENTITY e 'v'>]><a b='&e;' c='1'>&e;<d e='2'/><d e='2'/></a>"
	l, _, _ := xmlscan.Scan(s)
	want := show(l)
	for i := range l {
		for range 3 {
			l[i].Attrs = append(l[i].Attrs, api.Pair{Name: "spoilt"})
		}
		for j := range l[i].Attrs {
			l[i].Attrs[j].Value = "spoilt"
		}
		l[i].Text = "spoilt"
	}
	again, _, _ := xmlscan.Scan(s)
	if got := show(again); got != want {
		t.Errorf("%s, want %s", got, want)
	}
	again[2].Attrs = append(again[2].Attrs[:0], api.Pair{Name: "x"})
	if again[0].Attrs[0].Name != "b" || again[4].Attrs[0].Name != "e" {
		t.Error("lists of one answer lie in each other")
	}
}
