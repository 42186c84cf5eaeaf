package xout_test

import (
	"fmt"
	"math/rand"
	"reflect"
	"regexp"
	"slices"
	"strings"
	"testing"

	"stencil/api"
	"stencil/xdm"
	"stencil/xmlscan"
	"stencil/xout"
)

// item is a node of a tree that is made by chance: its token, and what lies in it.
type item struct {
	api.Token
	inner []item
}

type maker struct {
	*rand.Rand
}

func (m maker) pick(l ...string) string { return l[m.Intn(len(l))] }

func (m maker) text() string {
	s := ""
	for range 1 + m.Intn(4) {
		s += m.pick("x", "yz", " ", "\t", "\n", "\r", "&", "<", ">", "\"", "'", "]]>", "</", "</a>", "é", "😀", "\ufffd", "&amp;", "&#65;", "/", "!")
	}
	return s
}

func (m maker) element(deep int) item {
	x := item{Token: element(m.pick("a", "b", "p:a", "p:br", "é", "br", "BR", "input", "script", "Style", "p:script", "around"))}
	for range m.Intn(4) {
		name := m.pick("a", "b", "p:a", "checked", "CHECKED", "p:checked", "defer", "xmlns:p")
		if !slices.ContainsFunc(x.Attrs, func(a api.Pair) bool { return a.Name == name }) {
			x.Attrs = append(x.Attrs, api.Pair{Name: name, Value: m.pick("", name, "checked", m.text(), m.text())})
		}
	}
	// Most of them as html has them, so that both kinds come up.
	switch plain := strings.ToLower(x.Name); {
	case (plain == "br" || plain == "input") && m.Intn(8) > 0:
	case (plain == "script" || plain == "style") && m.Intn(8) > 0:
		if m.Intn(3) > 0 {
			x.inner = []item{{Token: text(m.text())}}
		}
	default:
		x.inner = m.items(deep)
	}
	return x
}

// items are those that may stand next to each other.
func (m maker) items(deep int) []item {
	var l []item
	for range m.Intn(5) {
		last := len(l) - 1
		switch kind := m.Intn(5); {
		case kind == 0 && (last < 0 || l[last].Kind != api.Text):
			l = append(l, item{Token: text(m.text())})
		case kind == 1:
			l = append(l, item{Token: comment(m.text())})
		case kind == 2:
			s := m.text()
			if m.Intn(4) > 0 {
				s = strings.ReplaceAll(s, ">", "")
			}
			l = append(l, item{Token: instr(m.pick("p", "xmlx"), strings.TrimLeft(s, " \t\n\r"))})
		case deep > 0:
			l = append(l, m.element(deep-1))
		}
	}
	return l
}

func tokens(l []item) []api.Token {
	var all []api.Token
	for _, x := range l {
		all = append(all, x.Token)
		if x.Kind == api.Element {
			all = append(append(all, tokens(x.inner)...), end(x.Name))
		}
	}
	return all
}

var (
	void  = regexp.MustCompile("^(?i:area|base|br|col|embed|hr|img|input|link|meta|source|track|wbr)$")
	raw   = regexp.MustCompile("^(?i:script|style)$")
	short = regexp.MustCompile("^(?i:checked|compact|declare|defer|disabled|ismap|multiple|nohref|noresize|noshade|nowrap|readonly|selected)$")
)

// written is a tree as the chapter's words say, node by node; false, if html can't have it.
func written(m api.Method, l []item) (string, bool) {
	s := ""
	for _, x := range l {
		inner, ok := written(m, x.inner)
		isVoid, isRaw := m == api.Html && void.MatchString(x.Name), m == api.Html && raw.MatchString(x.Name)
		if !ok || isVoid && len(x.inner) > 0 || m == api.Html && x.Kind == api.Pi && strings.Contains(x.Text, ">") {
			return "", false
		}
		if isRaw && len(x.inner) > 0 {
			if only := x.inner[0]; len(x.inner) > 1 || only.Kind != api.Text || strings.Contains(only.Text, "</") {
				return "", false
			}
			inner = x.inner[0].Text
		}
		switch {
		case m == api.Plain && x.Kind == api.Text:
			s += x.Text
		case m == api.Plain:
			s += inner
		case x.Kind == api.Text:
			s += strings.NewReplacer("&", "&amp;", "<", "&lt;", ">", "&gt;", "\r", "&#13;").Replace(x.Text)
		case x.Kind == api.Comment:
			s += fmt.Sprintf("<!--%s-->", x.Text)
		case x.Kind == api.Pi:
			s += "<?" + x.Name
			if x.Text != "" {
				s += " " + x.Text
			}
			s += map[api.Method]string{api.Xml: "?>", api.Html: ">"}[m]
		default:
			s += "<" + x.Name + attributes(m, x.Attrs)
			switch {
			case m == api.Xml && len(x.inner) == 0:
				s += "/>"
			case isVoid:
				s += ">"
			default:
				s += ">" + inner + "</" + x.Name + ">"
			}
		}
	}
	return s, true
}

func attributes(m api.Method, l []api.Pair) string {
	s := ""
	for _, a := range l {
		switch {
		case m == api.Xml:
			s += fmt.Sprintf(" %s=\"%s\"", a.Name, strings.NewReplacer("&", "&amp;", "<", "&lt;", `"`, "&quot;", "\t", "&#9;", "\n", "&#10;", "\r", "&#13;").Replace(a.Value))
		case short.MatchString(a.Name) && a.Value == a.Name:
			s += " " + a.Name
		default:
			s += fmt.Sprintf(" %s=\"%s\"", a.Name, strings.NewReplacer("&", "&amp;", `"`, "&quot;").Replace(a.Value))
		}
	}
	return s
}

func TestMeaning(t *testing.T) { // P10.2 (E2): of all three methods
	chance := maker{rand.New(rand.NewSource(5))}
	refused, taken := 0, 0
	for range 10000 {
		l := chance.items(3)
		for _, m := range methods() {
			want, ok := written(m, l)
			got, e := xout.Write(m, tokens(l)...)
			switch {
			case len(want) > api.MaxText:
			case ok && (e != api.OK || got != want), !ok && (e != api.ErrForm || got != ""):
				t.Fatalf("%d of %+v: %q, %d, want %q, %v", m, l, got, e, want, ok)
			case m == api.Html && ok:
				taken++
			case m == api.Html:
				refused++
			}
		}
	}
	if taken < 1000 || refused < 1000 {
		t.Error("too few of one kind", taken, refused)
	}
}

// document is items with one element at the top, and no text beside it.
func (m maker) document() []item {
	isText := func(x item) bool { return x.Kind == api.Text }
	return slices.Concat(slices.DeleteFunc(m.items(0), isText), []item{m.element(4)}, slices.DeleteFunc(m.items(0), isText))
}

func TestThereAndBack(t *testing.T) { // P10.4 (E1)
	chance := maker{rand.New(rand.NewSource(6))}
	trees := 0
	for range 5000 {
		l := tokens(chance.document())
		s, e := xout.Write(api.Xml, l...)
		if e != api.OK {
			t.Fatal(l, e)
		}
		back, e, _ := xmlscan.Scan(s)
		if e != api.OK || !reflect.DeepEqual(back, l) {
			t.Fatalf("%q: %d, %v, was %v", s, e, back, l)
		}
		// Nor is a tree lost, where prefixes stand for something.
		x, e := xdm.Build(l...)
		y, e2 := xdm.Parse(s)
		if e != e2 || !reflect.DeepEqual(x.Nodes(), y.Nodes()) {
			t.Fatalf("%q: %d, %d", s, e, e2)
		}
		if e == api.OK {
			trees++
		}
	}
	if trees < 500 {
		t.Error("too few trees", trees)
	}
	// As great as may be.
	for _, l := range [][]api.Token{nested(api.MaxDeep), crowded(api.MaxAttrs), in("a", listed(api.MaxNodes-2)...)} {
		s, e := xout.Write(api.Xml, l...)
		back, e2, _ := xmlscan.Scan(s)
		if e != api.OK || e2 != api.OK || !reflect.DeepEqual(back, l) {
			t.Error(len(l), e, e2)
		}
	}
}

func TestWhatIsReadIsWritten(t *testing.T) { // P10.4: from a text on
	for s, want := range map[string]string{
		"<a b='1'>x&lt;<!--c--></a>": `<a b="1">x&lt;<!--c--></a>`,
		"<a></a>":                    "<a/>",
		"<?p  q ?><a  b = '\"&#10;' ><b /></a >\n":     `<?p q ?><a b="&quot;&#10;"><b/></a>`,
		"<!DOCTYPE a [<!ENTITY e '&#38;'>]><a>&e;</a>": "<a>&amp;</a>",
		"<a><![CDATA[<&]]>&gt;</a>":                    "<a>&lt;&amp;&gt;</a>",
	} {
		l, e, _ := xmlscan.Scan(s)
		got, e2 := xout.Write(api.Xml, l...)
		again, e3, _ := xmlscan.Scan(got)
		if e != api.OK || e2 != api.OK || e3 != api.OK || got != want || !reflect.DeepEqual(l, again) {
			t.Errorf("%q: %q, %d, %d, %d", s, got, e, e2, e3)
		}
	}
}

func TestPlainIsTheTexts(t *testing.T) { // P10.5 (E5)
	chance := maker{rand.New(rand.NewSource(7))}
	for range 3000 {
		l := tokens(chance.document())
		want := ""
		for _, x := range l {
			if x.Kind == api.Text {
				want += x.Text
			}
		}
		if got, e := xout.Write(api.Plain, l...); got != want || e != api.OK {
			t.Fatalf("%q, %d, want %q", got, e, want)
		}
		if x, e := xdm.Build(l...); e == api.OK && x.String(0) != want {
			t.Fatalf("%q, want %q", x.String(0), want)
		}
	}
}

func TestOneBehindTheOther(t *testing.T) { // P10.6
	chance := maker{rand.New(rand.NewSource(8))}
	joined := 0
	for range 5000 {
		a, b := tokens(chance.items(2)), tokens(chance.items(2))
		meet := len(a) > 0 && len(b) > 0 && a[len(a)-1].Kind == api.Text && b[0].Kind == api.Text
		for _, m := range methods() {
			first, e := xout.Write(m, a...)
			second, e2 := xout.Write(m, b...)
			both, e3 := xout.Write(m, slices.Concat(a, b)...)
			switch {
			case meet:
				if e3 != api.ErrForm || both != "" {
					t.Fatal("two texts meet", a, b, e3)
				}
			case e == api.OK && e2 == api.OK:
				joined++
				if e3 != api.OK || both != first+second {
					t.Fatalf("%q, %q, %q, %d", first, second, both, e3)
				}
			case e3 != api.ErrForm || m != api.Html:
				t.Fatal(a, b, e, e2, e3)
			}
		}
	}
	if joined < 5000 {
		t.Error("too few", joined)
	}
}

func TestAnyTokens(t *testing.T) { // P1: tokens of any kind and any bytes
	chance := maker{rand.New(rand.NewSource(9))}
	odd := func() string {
		return chance.pick("", "a", "br", "script", "\xff", "\x00", "a:b", ":", "</", ">", "--", "?>", " ", "é", "checked", "xml")
	}
	for range 50000 {
		var l []api.Token
		for range chance.Intn(4) {
			x := api.Token{Kind: api.Kind(chance.Intn(10) - 1), Name: odd(), Text: odd()}
			for range chance.Intn(3) {
				x.Attrs = append(x.Attrs, api.Pair{Name: odd(), Value: odd()})
			}
			if chance.Intn(2) == 0 {
				x.Attrs, x.Text = nil, ""
			}
			l = append(l, x)
		}
		m, wide := api.Method(chance.Intn(5)-1), chance.Intn(2) == 0
		fault := xout.Right(l...)
		s, e := xout.Write(m, l...)
		b, e2 := xout.Bytes(m, wide, l...)
		isMethod := m >= api.Xml && m <= api.Plain
		if e != e2 || e != api.OK && (s != "" || len(b) > 0) || !isMethod && e != api.ErrRange || isMethod && fault != api.OK && e != fault || isMethod && fault == api.OK && m != api.Html && e != api.OK {
			t.Fatalf("%d of %+v: %q, %d, %d, %d", m, l, s, fault, e, e2)
		}
	}
}
