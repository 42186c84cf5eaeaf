package xslt_test

import (
	"bytes"
	"math"
	"slices"
	"strings"
	"testing"
	"unicode/utf16"

	"stencil/api"
	"stencil/xslt"
)

const head = "<x:stylesheet version='1.0' xmlns:x='http://www.w3.org/1999/XSL/Transform'>"

func sheetOf(rules string) string { return head + rules + "</x:stylesheet>" }

func rule(match, body string) string {
	return "<x:template match='" + match + "'>" + body + "</x:template>"
}

func output(attrs string) string { return "<x:output " + attrs + "/>" }

// named are resources: a name and what stands in it, in turn.
func named(l ...string) []api.Resource {
	var all []api.Resource
	for i := 0; i < len(l); i += 2 {
		all = append(all, api.Resource{Name: l[i], Text: sheetOf(l[i+1])})
	}
	return all
}

// wide is UTF-16, with the higher byte first, or last.
func wide(s string, last bool) []byte {
	var b []byte
	for _, u := range utf16.Encode([]rune("\ufeff" + s)) {
		if last {
			b = append(b, byte(u), byte(u>>8))
		} else {
			b = append(b, byte(u>>8), byte(u))
		}
	}
	return b
}

const copyAll = "<x:template match='@*|node()'><x:copy><x:apply-templates select='@*|node()'/></x:copy></x:template>"

func TestExamples(t *testing.T) { // chapter 16's, and those of the whole
	for _, c := range []struct{ doc, rules, want string }{
		{"<a>x</a>", rule("a", "<b><x:value-of select='.'/></b>"), "<b>x</b>"},
		{"<a p='1'>x<c>y</c>z</a>", "", "xyz"},
		{"<a p='1'>x<c>y</c>z</a>", rule("a", "<b><x:value-of select='.'/></b>"), "<b>xyz</b>"},
		{"<a p='1'>x<c>y</c>z</a>", copyAll, `<a p="1">x<c>y</c>z</a>`},
		{"<a p='1'>x<c>y</c>z</a>", output("method='text'") + rule("c", "!"), "x!z"},
	} {
		if s, e := xslt.Simple(c.doc, sheetOf(c.rules)); e != api.OK || s != c.want {
			t.Errorf("%s: %s, %d, want %s", c.rules, s, e, c.want)
		}
	}
}

func TestMethods(t *testing.T) { // P16.1: by the sheet's method, in both encodings
	const body = "<p a='&lt;\"' checked='checked'>é&lt;<br/><i/><script>a&lt;b</script><x:processing-instruction name='q'>r</x:processing-instruction></p>"
	for _, c := range []struct{ method, want string }{
		{"xml", "<p a=\"&lt;&quot;\" checked=\"checked\">é&lt;<br/><i/><script>a&lt;b</script><?q r?></p>"},
		{"html", "<p a=\"<&quot;\" checked>é&lt;<br><i></i><script>a<b</script><?q r></p>"},
		{"text", "é<a<b"},
	} {
		rules := rule("/", strings.ReplaceAll(body, "\"", "&quot;"))
		for encoding, want := range map[string][]byte{
			"":                   []byte(c.want),
			" encoding='utf-8'":  []byte(c.want),
			" encoding='UTF-16'": wide(c.want, false),
		} {
			l := named("s", output("method='"+c.method+"'"+encoding)+rules)
			b, messages, e := xslt.Transform([]byte("<a/>"), "s", l, nil, 100)
			if e != api.OK || !bytes.Equal(b, want) || len(messages) != 0 {
				t.Errorf("%s%s: %q, %d, want %q", c.method, encoding, b, e, want)
			}
		}
	}
}

func TestDocuments(t *testing.T) { // P16.1: the document's bytes, of any encoding
	l := named("s", copyAll)
	const doc = "<a>é\U0001f600<b/></a>"
	for _, b := range [][]byte{[]byte(doc), []byte("\xef\xbb\xbf" + doc), wide(doc, false), wide(doc, true), []byte("<?xml version='1.0'?>\r\n" + doc)} {
		if got, _, e := xslt.Transform(b, "s", l, nil, 100); e != api.OK || string(got) != doc {
			t.Errorf("%q: %q, %d", b, got, e)
		}
	}
	if got, _, e := xslt.Transform([]byte("<a>x\r\ny\rz</a>"), "s", l, nil, 100); e != api.OK || string(got) != "<a>x\ny\nz</a>" {
		t.Errorf("%q, %d", got, e)
	}
	// Of Simple likewise.
	if got, e := xslt.Simple(string(wide(doc, true)), sheetOf(copyAll)); e != api.OK || got != doc {
		t.Errorf("%q, %d", got, e)
	}
}

func TestSheetsAndParams(t *testing.T) { // P16.1: the sheet of the name, with what it leads to, and parameters
	l := named(
		"s", "<x:import href='i'/><x:include href='j'/><x:param name='v' select='1'/>"+rule("a", "s<x:value-of select='$v'/>;<x:apply-imports/>"),
		"i", rule("a", "i<x:apply-templates/>"),
		"j", rule("b", "j"),
		"s", "none",
	)
	for _, c := range []struct {
		name, want string
		params     []api.Pair
	}{
		{"s", "s1;ij", nil},
		{"s", "s7;ij", []api.Pair{{Name: "v", Value: "7"}, {Name: "v", Value: "8"}}},
		{"i", "i", nil},
		{"j", "j", nil},
	} {
		b, messages, e := xslt.Transform([]byte("<a><b/></a>"), c.name, l, c.params, 1000)
		if e != api.OK || string(b) != c.want || len(messages) != 0 {
			t.Errorf("%s: %s, %d, want %s", c.name, b, e, c.want)
		}
	}
}

func TestErrors(t *testing.T) { // P16.1: the error of each step, in their order
	const (
		good     = "<a>x</a>"
		unformed = "<a>"
		noUtf    = "<a>\xff</a>"
		stops    = "<x:message>m</x:message><x:message terminate='yes'>n</x:message>"
	)
	fine := named("s", rule("a", "<o><x:value-of select='.'/></o>"))
	code := named("s", rule("a", "<x:value-of select='['/>"))
	kinds := named("s", rule("a", "<x:message>m</x:message><x:for-each select='1'/>"))
	written := named("s", output("method='html'")+rule("a", "<x:message>m</x:message><br>x</br>"))
	global := named("s", "<x:param name='v' select='1'/>")
	long := named("s", rule("a", strings.Repeat("<x:copy-of select='.'/>", 3)))
	for i, c := range []struct {
		want   api.Errno
		doc    string
		name   string
		l      []api.Resource
		params []api.Pair
		fuel   int
	}{
		{api.OK, good, "s", fine, nil, 100},
		// xsheet.Load's.
		{api.ErrName, unformed, "none", fine, nil, 100},
		{api.ErrName, noUtf, "", nil, nil, -1},
		{api.ErrForm, noUtf, "s", []api.Resource{{Name: "s", Text: "<a"}}, nil, -1},
		{api.ErrSheet, noUtf, "s", []api.Resource{{Name: "s", Text: "<a/>"}}, nil, -1},
		{api.ErrLoop, noUtf, "s", named("s", "<x:include href='s'/>"), nil, -1},
		{api.ErrKnown, noUtf, "s", named("s", "<x:template name='n'/><x:template name='n'/>"), nil, -1},
		{api.ErrPrefix, good, "s", named("s", "<x:strip-space elements='p:a'/>"+rule("a", "<x:value-of select='['/>")), nil, -1},
		// xcode.Compile's.
		{api.ErrWord, noUtf, "s", code, nil, -1},
		{api.ErrName, noUtf, "s", named("s", rule("a", "<x:call-template name='n'/>")), nil, -1},
		{api.ErrLoop, noUtf, "s", named("s", "<x:variable name='v' select='$v'/>"), nil, -1},
		// xchar.Decode's.
		{api.ErrUtf, noUtf, "s", fine, nil, -1},
		{api.ErrUtf, "\xfe\xff\x00", "s", fine, nil, -1},
		{api.ErrChar, "<a>\x00", "s", fine, nil, -1},
		{api.ErrLimit, strings.Repeat("<", api.MaxText+1), "s", fine, nil, -1},
		// xdm.Parse's.
		{api.ErrForm, unformed, "s", fine, nil, -1},
		{api.ErrForm, "", "s", fine, nil, -1},
		{api.ErrPrefix, "<p:a/>", "s", fine, nil, -1},
		{api.ErrKnown, "<a xmlns:p='u' xmlns:q='u' p:b='' q:b=''/>", "s", fine, nil, -1},
		{api.ErrLimit, strings.Repeat("<a>", 33) + strings.Repeat("</a>", 33), "s", fine, nil, -1},
		// xrun.Run's.
		{api.ErrRange, good, "s", fine, nil, -1},
		{api.ErrRange, good, "s", fine, nil, api.MaxFuel + 1},
		{api.ErrRange, good, "s", fine, nil, math.MinInt},
		{api.ErrRange, good, "s", fine, []api.Pair{{Name: "1"}}, 100},
		{api.ErrFuel, good, "s", fine, nil, 0},
		{api.ErrFuel, good, "s", fine, nil, 5},
		{api.OK, good, "s", fine, nil, 6},
		{api.ErrFuel, "<a/>", "s", global, nil, 1 + 1 + 1},
		{api.OK, "<a/>", "s", global, nil, 1 + 1 + 2},
		{api.ErrFuel, "<a/>", "s", global, []api.Pair{{Name: "v"}}, 1 + 1},
		{api.OK, "<a/>", "s", global, []api.Pair{{Name: "v"}}, 1 + 2},
		{api.ErrKind, good, "s", kinds, nil, 100},
		{api.ErrStop, good, "s", named("s", output("method='html'")+rule("a", "<br>x"+stops+"</br>")), nil, 100},
		// xout.Bytes's.
		{api.ErrForm, good, "s", written, nil, 100},
		{api.ErrLimit, "<a>" + strings.Repeat("x", api.MaxText/2) + "</a>", "s", long, nil, 100},
	} {
		b, messages, e := xslt.Transform([]byte(c.doc), c.name, c.l, c.params, c.fuel)
		if e != c.want {
			t.Errorf("%d: %d, want %d", i, e, c.want)
		}
		if e != api.OK && b != nil {
			t.Errorf("%d: %q beside the error", i, b)
		}
		if want := map[bool][]string{true: {"m", "n"}}[e == api.ErrStop]; !slices.Equal(messages, want) {
			t.Errorf("%d: %q, want %q", i, messages, want)
		}
	}
}

func TestMessages(t *testing.T) { // P16.1: the messages
	l := named("s", rule("/", "<x:message>m</x:message><o/><x:message><x:value-of select='.'/></x:message>"))
	b, messages, e := xslt.Transform([]byte("<a>x</a>"), "s", l, nil, 100)
	if e != api.OK || string(b) != "<o/>" || !slices.Equal(messages, []string{"m", "x"}) {
		t.Errorf("%q, %q, %d", b, messages, e)
	}
	// One in a global ends all ahead of the answer.
	l = named("s", "<x:variable name='v'><x:message terminate='yes'/></x:variable>")
	b, messages, e = xslt.Transform([]byte("<a/>"), "s", l, nil, 100)
	if e != api.ErrStop || b != nil || !slices.Equal(messages, []string{""}) {
		t.Errorf("%q, %q, %d", b, messages, e)
	}
}

func TestSimple(t *testing.T) { // P16.1: a sheet's text alone
	for _, c := range []struct {
		doc, sheet, want string
		fault            api.Errno
	}{
		{"<a>x</a>", sheetOf(rule("a", "é<o/>")), "é<o/>", api.OK},
		{"<a>x</a>", sheetOf(output("encoding='utf-8'")), "x", api.OK},
		{"<a/>", sheetOf(""), "", api.OK},
		// It has no parameters, and its name is s.
		{"<a/>", sheetOf("<x:param name='v' select='1'/>" + rule("a", "<x:value-of select='$v'/>")), "1", api.OK},
		{"<a/>", sheetOf("<x:include href='s'/>"), "", api.ErrLoop},
		{"<a/>", sheetOf("<x:include href='t'/>"), "", api.ErrName},
		// UTF-16 is no text.
		{"<a>x</a>", sheetOf(output("encoding='utf-16'")), "", api.ErrUtf},
		{"<a/>", sheetOf(output("encoding='utf-16'")), "", api.ErrUtf},
		// Errors of the steps ahead count more.
		{"<a>", sheetOf(output("encoding='utf-16'")), "", api.ErrForm},
		{"<a>x</a>", "", "", api.ErrForm},
		{"<a>x</a>", "\xff", "", api.ErrChar},
		{"\xff", sheetOf(""), "", api.ErrUtf},
		{"", sheetOf(""), "", api.ErrForm},
		{"<a/>", sheetOf(rule("a", "<x:message terminate='yes'/>")), "", api.ErrStop},
		{"<a/>", sheetOf(rule("a", "<x:value-of select='$v'/>")), "", api.ErrName},
	} {
		if s, e := xslt.Simple(c.doc, c.sheet); e != c.fault || s != c.want {
			t.Errorf("%q, %q: %q, %d, want %q, %d", c.doc, c.sheet, s, e, c.want, c.fault)
		}
	}
	// With all the fuel that there is.
	doc := "<a>" + strings.Repeat("<b/>", 1000) + "</a>"
	loop := func(test string) string {
		return sheetOf(rule("/", "<x:for-each select='//b'><x:if test='"+test+"'><x:for-each select='//b'><x:if test='0'/></x:for-each></x:if></x:for-each>"))
	}
	if _, e := xslt.Simple(doc, loop("position() &lt; 150")); e != api.OK {
		t.Error(e)
	}
	if _, e := xslt.Simple(doc, loop("1")); e != api.ErrFuel {
		t.Error(e)
	}
}

func TestListsAreTheCallers(t *testing.T) { // P3: nothing that is handed in or answered is shared
	doc := []byte("<a>x</a>spare")
	l := append(named("s", "<x:param name='v'/><x:message>m</x:message>"), api.Resource{Name: "spare"})
	l[0].Text = sheetOf("<x:param name='v'/>" + rule("a", "<x:message>m</x:message><x:value-of select='$v'/>"))
	params := []api.Pair{{Name: "v", Value: "1"}, {Name: "spare"}}
	keptDoc, keptList, keptParams := slices.Clone(doc), slices.Clone(l), slices.Clone(params)
	first, messages, e := xslt.Transform(doc[:8], "s", l[:1], params[:1], 100)
	if e != api.OK || string(first) != "1" || len(messages) != 1 {
		t.Fatal(string(first), messages, e)
	}
	again, others, _ := xslt.Transform(doc[:8], "s", l[:1], params[:1], 100)
	first[0], messages[0] = 'y', "y"
	_, _ = append(first, 'z'), append(messages, "z")
	if string(again) != "1" || others[0] != "m" {
		t.Error(string(again), others)
	}
	if !bytes.Equal(doc, keptDoc) || !slices.Equal(l, keptList) || !slices.Equal(params, keptParams) {
		t.Error("what is handed in is changed")
	}
}
