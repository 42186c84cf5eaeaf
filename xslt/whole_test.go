package xslt_test

import (
	"bytes"
	"math/rand"
	"reflect"
	"slices"
	"strings"
	"testing"

	"stencil/api"
	"stencil/xchar"
	"stencil/xcode"
	"stencil/xdm"
	"stencil/xmlscan"
	"stencil/xout"
	"stencil/xrun"
	"stencil/xsheet"
	"stencil/xslt"
)

// maker makes documents and stylesheets by chance.
type maker struct {
	*rand.Rand
}

func (m maker) pick(l ...string) string { return l[m.Intn(len(l))] }

func (m maker) content(deep int) string {
	s := ""
	for range m.Intn(5) {
		switch k := m.Intn(6); {
		case k == 0:
			s += m.pick("x", " ", "&lt;é", "<![CDATA[>]]>", "&#13;", "\U0001f600", "&amp;\n")
		case k == 1:
			s += m.pick("<!--c-->", "<?p q?>", "<?s?>")
		case deep > 0:
			s += m.element(deep - 1)
		}
	}
	return s
}

func (m maker) element(deep int) string {
	name := m.pick("a", "b", "p:b", "c")
	attrs := m.pick("", "", " i='1'", " j='' i='&lt;\"&#10;'", " p:i='2'", " xmlns:p='u'", " xmlns='u'", " xmlns:p='v' p:k='3'", " xmlns=''")
	return "<" + name + attrs + ">" + m.content(deep) + "</" + name + ">"
}

// document is one that is well formed.
func (m maker) document(deep int) string {
	for {
		doc := m.pick("", "<!--t-->", "<?q?>", "<?xml version='1.0'?>") + strings.Replace(m.element(deep), ">", " xmlns:p='u'>", 1) + m.pick("", "<!--e-->", "\n")
		if _, e := xdm.Parse(doc); e == api.OK {
			return doc
		}
	}
}

// bare is what a text's tree holds but for its declarations.
func bare(t *testing.T, s string) []api.Node {
	t.Helper()
	x, e := xdm.Parse(s)
	if e != api.OK {
		t.Fatalf("%s: no document: %d", s, e)
	}
	return x.Nodes()
}

// withoutDeclarations are the tokens of a text but for where prefixes are declared.
func withoutDeclarations(t *testing.T, s string) []api.Token {
	t.Helper()
	l, e, _ := xmlscan.Scan(s)
	if e != api.OK {
		t.Fatalf("%s: no document: %d", s, e)
	}
	for i := range l {
		l[i].Attrs = slices.DeleteFunc(l[i].Attrs, func(p api.Pair) bool {
			return p.Name == "xmlns" || strings.HasPrefix(p.Name, "xmlns:")
		})
		if len(l[i].Attrs) == 0 {
			l[i].Attrs = nil
		}
	}
	return l
}

func TestCopyIsTheDocument(t *testing.T) { // P16.3 (E1): by the stylesheet that copies all
	m := maker{rand.New(rand.NewSource(19))}
	for range 1500 {
		doc := m.document(5)
		s, e := xslt.Simple(doc, sheetOf(copyAll))
		if e != api.OK {
			t.Fatal(doc, e)
		}
		if !reflect.DeepEqual(withoutDeclarations(t, s), withoutDeclarations(t, doc)) || !reflect.DeepEqual(bare(t, s), bare(t, doc)) {
			t.Fatalf("%s\n%s", doc, s)
		}
		// A copy's copy is it, byte by byte.
		if again, e := xslt.Simple(s, sheetOf(copyAll)); e != api.OK || again != s {
			t.Fatalf("%s\n%s, %d", s, again, e)
		}
		// There and back in UTF-16.
		b, _, e := xslt.Transform([]byte(doc), "s", named("s", output("encoding='utf-16'")+copyAll), nil, api.MaxFuel)
		if e != api.OK {
			t.Fatal(doc, e)
		}
		if again, _, e := xslt.Transform(b, "s", named("s", copyAll), nil, api.MaxFuel); e != api.OK || string(again) != s {
			t.Fatalf("%s\n%s, %d", s, again, e)
		}
	}
}

func TestTextsOfTheDocument(t *testing.T) { // P16.4 (E5): by a stylesheet without rules, as text
	m := maker{rand.New(rand.NewSource(20))}
	for range 1500 {
		doc := m.document(5)
		x, _ := xdm.Parse(doc)
		if s, e := xslt.Simple(doc, sheetOf(output("method='text'"))); e != api.OK || s != x.String(0) {
			t.Fatalf("%s: %s, %d", doc, s, e)
		}
	}
}

// sheet is one of a few rules, which may be wrong.
func (m maker) sheet() string {
	s := m.pick("", "", output("method='html'"), output("method='text'"), output("encoding='utf-16'"), output("method='pdf'"))
	bodies := []string{
		"<x:apply-templates/>", "x", "<o><x:apply-templates select='@*|node()'/></o>", "<x:value-of select='.'/>", "<x:copy-of select='.'/>",
		"<x:message>m<x:value-of select='position()'/></x:message>", "<x:message terminate='yes'>n</x:message>", "<br/>", "<script>&lt;/</script>",
		"<x:element name='{name()}'><x:apply-templates/></x:element>", "<x:attribute name='i'>1</x:attribute>", "<x:number/>", "<x:for-each select='*'><i/></x:for-each>", "<x:value-of select='$v'/>", "<x:copy><x:apply-templates/></x:copy>",
	}
	for range m.Intn(5) {
		s += rule(m.pick("/", "a", "b", "*", "text()", "@*|node()", "p:b", "["), m.pick(bodies...)+m.pick(bodies...))
	}
	return strings.Replace(sheetOf(s+m.pick("", "<x:param name='v' select='//a'/>", "<x:strip-space elements='*'/>")), ">", " xmlns:p='u'>", 1)
}

// steps does by hand what a transformation does.
func steps(doc []byte, l []api.Resource, params []api.Pair, fuel int) ([]byte, []string, api.Errno) {
	sheet, e := xsheet.Load("s", l...)
	if e != api.OK {
		return nil, nil, e
	}
	p, e := xcode.Compile(sheet)
	if e != api.OK {
		return nil, nil, e
	}
	s, e, _ := xchar.Decode(doc)
	if e != api.OK {
		return nil, nil, e
	}
	x, e := xdm.Parse(s)
	if e != api.OK {
		return nil, nil, e
	}
	a, e := xrun.Run(p, x, fuel, params...)
	if e != api.OK {
		return nil, a.Messages, e
	}
	b, e := xout.Bytes(sheet.Method, sheet.Wide, a.Tokens...)
	if e != api.OK {
		return nil, nil, e
	}
	return b, a.Messages, api.OK
}

func TestMeaning(t *testing.T) { // P16.1, P16.2 (E3): stylesheets and documents by chance, step by step
	m := maker{rand.New(rand.NewSource(21))}
	seen := map[api.Errno]int{}
	for range 6000 {
		doc := m.document(2)
		if m.Intn(20) == 0 {
			doc = doc[:m.Intn(len(doc))] + m.pick("", "\xff", "\x00", "<")
		}
		l := []api.Resource{{Name: "s", Text: m.sheet()}}
		var params []api.Pair
		if m.Intn(4) == 0 {
			params = append(params, api.Pair{Name: m.pick("v", "w", "1"), Value: "2"})
		}
		fuel := []int{1000, 100, 20}[m.Intn(3)]
		b, messages, e := xslt.Transform([]byte(doc), "s", l, params, fuel)
		wantBytes, wantMessages, f := steps([]byte(doc), l, params, fuel)
		if e != f || !bytes.Equal(b, wantBytes) || !slices.Equal(messages, wantMessages) {
			t.Fatalf("%s\n%s\n%s, %q, %d, want %s, %q, %d", doc, l[0].Text, b, messages, e, wantBytes, wantMessages, f)
		}
		seen[e]++
		if e != api.OK {
			continue
		}
		more, others, e := xslt.Transform([]byte(doc), "s", l, params, api.MaxFuel)
		if e != api.OK || !bytes.Equal(b, more) || !slices.Equal(messages, others) {
			t.Fatal("not the same with more fuel", doc, l[0].Text, e)
		}
		s, e := xslt.Simple(doc, l[0].Text)
		if isWide := bytes.HasPrefix(b, []byte{0xfe, 0xff}); params == nil && (isWide != (e == api.ErrUtf) || !isWide && s != string(b)) {
			t.Fatal(s, e)
		}
	}
	for _, e := range []api.Errno{api.OK, api.ErrUtf, api.ErrChar, api.ErrForm, api.ErrSheet, api.ErrWord, api.ErrRange, api.ErrFuel, api.ErrName, api.ErrStop, api.ErrBuild} {
		if seen[e] < 10 {
			t.Error("too few of", e, seen)
		}
	}
}

func TestOddArguments(t *testing.T) { // P1: arguments of any kind
	chance := rand.New(rand.NewSource(22))
	texts := []string{"", "s", "\xff", "<a/>", "<a>", "\xfe\xff", "\xff\xfe\x00", "\x00", sheetOf(""), sheetOf(copyAll), head, strings.Repeat("<a>", 100), strings.Repeat("x", api.MaxText+1)}
	text := func() string { return texts[chance.Intn(len(texts))] }
	for range 5000 {
		var l []api.Resource
		for range chance.Intn(3) {
			l = append(l, api.Resource{Name: text(), Text: text()})
		}
		var params []api.Pair
		for range chance.Intn(3) {
			params = append(params, api.Pair{Name: text(), Value: text()})
		}
		fuel := []int{-1, 0, 1, 100, api.MaxFuel, api.MaxFuel + 1}[chance.Intn(6)]
		b, messages, e := xslt.Transform([]byte(text()), text(), l, params, fuel)
		if e < api.OK || e > api.ErrMark || e != api.OK && (b != nil || messages != nil) {
			t.Fatal(b, messages, e)
		}
		if s, e := xslt.Simple(text(), text()); e != api.OK && s != "" {
			t.Fatal(s, e)
		}
	}
	if b, messages, e := xslt.Transform(nil, "", nil, nil, 0); b != nil || messages != nil || e != api.ErrName {
		t.Error(b, messages, e)
	}
}
