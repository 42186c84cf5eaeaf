package xrun_test

import (
	"reflect"
	"strings"
	"testing"

	"stencil/api"
	"stencil/xcode"
	"stencil/xdm"
	"stencil/xout"
	"stencil/xrun"
	"stencil/xsheet"
)

const head = "<x:stylesheet version='1.0' xmlns:x='http://www.w3.org/1999/XSL/Transform'>"

func sheetOf(rules string) string { return head + rules + "</x:stylesheet>" }

// load is the program of a stylesheet, with others that it may lead to: a name and what stands in it, in turn.
func load(t *testing.T, rules string, others ...string) *xcode.Program {
	t.Helper()
	l := []api.Resource{{Name: "s", Text: sheetOf(rules)}}
	for i := 0; i+1 < len(others); i += 2 {
		l = append(l, api.Resource{Name: others[i], Text: sheetOf(others[i+1])})
	}
	s, e := xsheet.Load("s", l...)
	if e != api.OK {
		t.Fatalf("%s: no stylesheet: %d", rules, e)
	}
	return compile(t, s)
}

func compile(t *testing.T, s api.Sheet) *xcode.Program {
	t.Helper()
	p, e := xcode.Compile(s)
	if e != api.OK {
		t.Fatalf("%+v: no program: %d", s, e)
	}
	return p
}

func parse(t *testing.T, doc string) *xdm.Tree {
	t.Helper()
	x, e := xdm.Parse(doc)
	if e != api.OK {
		t.Fatalf("%s: no document: %d", doc, e)
	}
	return x
}

// told is an answer in short: its tokens as xml, and its messages.
func told(t *testing.T, a xrun.Answer) string {
	t.Helper()
	s, e := xout.Write(api.Xml, a.Tokens...)
	if e != api.OK {
		t.Fatalf("%+v: no tree's tokens: %d", a.Tokens, e)
	}
	for _, m := range a.Messages {
		s += " (" + m + ")"
	}
	return s
}

func expect(t *testing.T, want string, p *xcode.Program, x *xdm.Tree, params ...api.Pair) {
	t.Helper()
	a, e := xrun.Run(p, x, api.MaxFuel, params...)
	if e != api.OK {
		t.Errorf("error %d, want %s", e, want)
		return
	}
	if got := told(t, a); got != want {
		t.Errorf("got  %s\nwant %s", got, want)
	}
}

// refuse is that a run has an error, and tells nothing beside it but, of ErrStop, these messages.
func refuse(t *testing.T, want api.Errno, p *xcode.Program, x *xdm.Tree, messages ...string) {
	t.Helper()
	a, e := xrun.Run(p, x, api.MaxFuel)
	if e != want || !reflect.DeepEqual(a, xrun.Answer{Messages: messages}) {
		t.Errorf("%+v, %d, want %d, %v", a, e, want, messages)
	}
}

// rule is a template of a pattern.
func rule(match, body string) string {
	return "<x:template match='" + match + "'>" + body + "</x:template>"
}

// ruleWith has more attributes.
func ruleWith(match, attrs, body string) string {
	return "<x:template match='" + match + "' " + attrs + ">" + body + "</x:template>"
}

func named(name, body string) string {
	return "<x:template name='" + name + "'>" + body + "</x:template>"
}

func value(of string) string { return "<x:value-of select=\"" + of + "\"/>" }

const (
	applyAll = "<x:apply-templates/>"
	copyAll  = "<x:template match='@*|node()'><x:copy><x:apply-templates select='@*|node()'/></x:copy></x:template>"
)

// row is a document, a stylesheet's rules, and what comes of them.
type row struct {
	doc, rules, want string
}

func expectAll(t *testing.T, rows []row) {
	t.Helper()
	for _, r := range rows {
		t.Run(r.rules, func(t *testing.T) {
			t.Helper()
			expect(t, r.want, load(t, r.rules), parse(t, r.doc))
		})
	}
}

func TestExamples(t *testing.T) { // chapter 15's, and those of the whole
	const doc = "<a p='1'>x<c>y</c>z</a>"
	expectAll(t, []row{
		{"<a><b/></a>", rule("/", "<o>"+value("count(//*)")+"</o>"), "<o>2</o>"},
		{doc, "", "xyz"},
		{doc, rule("a", "<b>"+value(".")+"</b>"), "<b>xyz</b>"},
		{doc, copyAll, `<a p="1">x<c>y</c>z</a>`},
		{doc, rule("c", "!"), "x!z"},
	})
}

func TestWithoutRules(t *testing.T) { // P15.1: the rules that stand where none matches; P15.3
	const doc = "<?p q?><!--c--><a p='1'>x<!--d--><b q='2'>y<?p q?></b>z</a>"
	expectAll(t, []row{
		{doc, "", "xyz"},
		{doc, rule("/", applyAll), "xyz"},
		{doc, rule("a", "<x:apply-templates select='@*'/>"), "1"},
		{doc, rule("a", "<x:apply-templates select='@*|comment()|b/processing-instruction()|b/@q'/>"), "12"},
		{doc, rule("/", "<x:apply-templates select='/a/@p|//comment()|//processing-instruction()'/>"), "1"},
		// In the same mode, and without what the rule was given.
		{"<a><b><c/></b></a>", rule("/", "<x:apply-templates mode='m'><x:with-param name='v' select='1'/></x:apply-templates>") +
			rule("c", "none") + ruleWith("c", "mode='m'", "<x:param name='v' select='2'/>m"+value("$v")), "m2"},
		// Places are counted anew.
		{"<a>x<b/><b/></a>", rule("b", value("concat(position(), last(), ' ')")), "x23 33 "},
	})
}

func TestWhichRule(t *testing.T) { // P15.1: the mode, the match, the priority, the place
	const doc = "<a><b i='1'/></a>"
	expectAll(t, []row{
		{doc, rule("b", "1") + rule("b", "2"), "2"},
		{doc, rule("a", applyAll) + rule("b", "1") + rule("*", "2"), "1"},
		{doc, rule("*", "2") + rule("b", "1") + rule("node()", "3") + rule("a", applyAll), "1"},
		{doc, rule("*", "2") + rule("b", "1") + rule("node()", "3"), "3"},
		{doc, rule("a", applyAll) + rule("b", "1") + rule("a/b", "2") + rule("*", "3"), "2"},
		{doc, rule("a", applyAll) + rule("b[1]", "1") + rule("a/b", "2"), "2"},
		{doc, rule("a", applyAll) + rule("a/b", "1") + rule("b[1]", "2"), "2"},
		// A rule's own priority.
		{doc, ruleWith("b", "priority='1'", "1") + rule("a/b", "2"), "1"},
		{doc, ruleWith("b", "priority='0.5'", "1") + rule("a/b", "2"), "2"},
		{doc, rule("a/b", "2") + ruleWith("b", "priority='0.5'", "1"), "1"},
		{doc, ruleWith("b", "priority='0.500001'", "1") + rule("a/b", "2"), "1"},
		{doc, ruleWith("a/b", "priority='-1'", "1") + rule("node()", applyAll), ""},
		{doc, ruleWith("a/b", "priority='-0.6'", "1") + rule("a", applyAll) + rule("*", "2"), "2"},
		{doc, ruleWith("b", "priority='1'", "1") + ruleWith("b", "priority='1'", "2") + ruleWith("b", "priority='0'", "3"), "2"},
		// Of the paths that match the greatest one.
		{doc, rule("*|a/b", "1") + rule("b", "2") + rule("a", applyAll), "1"},
		{doc, rule("a/b|*", "1") + rule("b", "2") + rule("a", applyAll), "1"},
		{doc, rule("a", applyAll) + rule("*|c/b", "1") + rule("b", "2"), "2"},
		{doc, rule("a", applyAll) + rule("b", "2") + rule("*|c/b", "1"), "2"},
		{doc, ruleWith("a/b|*", "priority='-2'", "1") + rule("*", applyAll+"3"), "33"},
		// Modes.
		{doc, rule("a", "<x:apply-templates mode='m'/>") + rule("b", "1") + ruleWith("b", "mode='m'", "2") + ruleWith("b", "mode='n'", "3"), "2"},
		{doc, rule("a", "<x:apply-templates mode='n:m'/>") + rule("b", "1") + ruleWith("b", "mode='m'", "2"), ""},
		{doc, ruleWith("b", "mode='m'", "2"), ""},
		// A rule that is named alone matches nothing; one that is both does both.
		{doc, named("b", "1"), ""},
		{doc, ruleWith("b", "name='n'", "1") + rule("a", "<x:call-template name='n'/>"+applyAll), "11"},
		// The root, attributes, texts and the others.
		{"<a i='1'>x<!--c--><?p q?></a>", rule("/", "/"+applyAll) + rule("a", "<x:apply-templates select='@*|node()'/>") + rule("@i", "i") + rule("text()", "t") + rule("comment()", "c") + rule("processing-instruction(\"p\")", "p"), "/itcp"},
	})
}

func TestGlobalsInPatterns(t *testing.T) { // P15.1: a rule matches with the globals as variables
	const doc = "<a><b i='1'/><b i='2'/></a>"
	expectAll(t, []row{
		{doc, "<x:variable name='v' select='2'/>" + rule("b[@i = $v]", "!") + rule("b", "."), ".!"},
		// None but these.
		{doc, rule("b[@i = $v]", "!") + rule("b", ".") + rule("a", "<x:variable name='v' select='2'/>"+applyAll), ".."},
		// What is not reckoned yet is none.
		{doc, "<x:variable name='u'><x:apply-templates select='/a/b'/></x:variable><x:variable name='v' select='2'/>" + rule("b[@i = $v]", "!") + rule("b", ".") + rule("/", value("$u")+"|"+applyAll), "..|.!"},
		{doc, "<x:variable name='u'><x:apply-templates select='/a/b'/><x:if test='$v'/></x:variable><x:variable name='v' select='2'/>" + rule("b[@i = $v]", "!") + rule("b", ".") + rule("/", value("$u")+"|"+applyAll), ".!|.!"},
	})
	// A parameter's value is the text that is handed in.
	p := load(t, "<x:param name='v' select='2'/>"+rule("b[@i = $v]", "!")+rule("b", "."))
	expect(t, "!.", p, parse(t, doc), api.Pair{Name: "v", Value: "1"})
	expect(t, ".!", p, parse(t, doc))
}

func TestLevels(t *testing.T) { // P15.1: what is imported counts less, whatever its priority
	x := parse(t, "<a><b/></a>")
	for _, c := range []struct {
		want, rules string
		others      []string
	}{
		{"1", "<x:import href='i'/>" + rule("b", "1"), []string{"i", rule("b", "2")}},
		{"1", "<x:import href='i'/>" + rule("a", applyAll) + ruleWith("*", "priority='-9'", "1"), []string{"i", ruleWith("b", "priority='9'", "2")}},
		{"2", "<x:import href='i'/>" + rule("c", "1"), []string{"i", rule("b", "2")}},
		{"3", "<x:import href='i'/><x:import href='j'/>", []string{"i", rule("b", "2"), "j", rule("b", "3")}},
		{"2", "<x:import href='j'/><x:import href='i'/>", []string{"i", rule("b", "2"), "j", rule("b", "3")}},
		{"2", "<x:import href='i'/>", []string{"i", "<x:import href='j'/>" + rule("b", "2"), "j", rule("b", "3")}},
		{"2", rule("b", "1") + "<x:include href='i'/>", []string{"i", rule("b", "2")}},
		{"1", "<x:include href='i'/>" + rule("b", "1"), []string{"i", rule("b", "2")}},
		// A name that several have is the one's that counts most.
		{"1", "<x:import href='i'/>" + named("n", "1") + rule("/", "<x:call-template name='n'/>"), []string{"i", named("n", "2")}},
	} {
		t.Run(c.rules, func(t *testing.T) {
			expect(t, c.want, load(t, c.rules, c.others...), x)
		})
	}
}

func TestImports(t *testing.T) { // P15.1: apply-imports
	const up, imported = "<x:apply-imports/>", "<x:import href='i'/>"
	for _, c := range []struct {
		doc, want, rules string
		others           []string
	}{
		{"<a><b/></a>", "<o>2</o>", imported + rule("b", "<o>"+up+"</o>"), []string{"i", rule("b", "2")}},
		// Of several levels, one by one.
		{"<b/>", "1(2(3()))", imported + rule("b", "1("+up+")"), []string{"i", "<x:import href='j'/>" + rule("b", "2("+up+")"), "j", rule("b", "3("+up+")")}},
		{"<b/>", "1(3(2()))", imported + "<x:import href='j'/>" + rule("b", "1("+up+")"), []string{"i", rule("b", "2("+up+")"), "j", rule("b", "3("+up+")")}},
		// Those of its own level are not asked, and those that count more neither.
		{"<b/>", "1()", rule("b", "2") + rule("b", "1("+up+")"), nil},
		{"<b/>", "1(2())", imported + rule("b", "1("+up+")"), []string{"i", rule("b", "3") + rule("b", "2("+up+")")}},
		// Without one that matches, the rules that stand without one.
		{"<b>x<c/>y</b>", "(xy)", rule("b", "("+up+")"), nil},
		{"<b>x<c/>y</b>", "(x!y)", imported + rule("b", "("+up+")") + rule("c", "!"), []string{"i", rule("c", "?") + ruleWith("b", "mode='m'", "?")}},
		{"<b i='1'/>", "(1)", rule("@i", "("+up+")") + rule("b", "<x:apply-templates select='@i'/>"), nil},
		// In the mode of the rule that is run.
		{"<b>x</b>", "m2", imported + rule("/", "<x:apply-templates mode='m'/>") + ruleWith("b", "mode='m'", "m"+up), []string{"i", rule("b", "1") + ruleWith("b", "mode='m'", "2")}},
		{"<b><c/></b>", "m(3)", imported + rule("/", "<x:apply-templates mode='m'/>") + ruleWith("b", "mode='m'", "m("+up+")"), []string{"i", rule("c", "1") + ruleWith("c", "mode='m'", "3")}},
		// At the same node, place and size.
		{"<a><b/><b/></a>", "b12b22", imported + rule("b", up), []string{"i", rule("b", value("concat(name(), position(), last())"))}},
		{"<a><b/><c/></a>", "c11", imported + rule("a", "<x:for-each select='c'>"+up+"</x:for-each>"), []string{"i", rule("a", "none") + rule("c", value("concat(name(), position(), last())"))}},
		// The rule that is run stays in a template that is called.
		{"<b/>", "3", imported + rule("b", "<x:call-template name='n'/>"), []string{"i", "<x:import href='j'/>" + named("n", up) + rule("b", "3"), "j", rule("b", "4")}},
		{"<b/>", "4", imported + rule("c", ""), []string{"i", "<x:import href='j'/>" + rule("b", "<x:call-template name='n'/>") + named("n", up), "j", rule("b", "4")}},
		// What a rule was given is not handed on, and its variables do not hold.
		{"<b/>", "1", imported + "<x:variable name='w' select='1'/>" + rule("/", "<x:apply-templates><x:with-param name='v' select='3'/></x:apply-templates>") + rule("b", "<x:param name='v'/><x:variable name='w' select='4'/>"+up), []string{"i", rule("b", "<x:param name='v' select='$w'/>"+value("$v"))}},
		// A rule of a mode that an import's body applies is asked of all levels.
		{"<b><c/></b>", "5", imported + rule("b", up) + rule("c", "5"), []string{"i", rule("b", applyAll) + rule("c", "6")}},
		// No rule is run: nothing.
		{"<b>x</b>", "()", "<x:variable name='v'>(" + up + ")</x:variable>" + rule("/", value("$v")), nil},
		{"<b>x</b>", "()", "<x:variable name='v'><x:call-template name='n'/></x:variable>" + rule("/", value("$v")) + named("n", "("+up+")"), nil},
	} {
		t.Run(c.rules, func(t *testing.T) {
			expect(t, c.want, load(t, c.rules, c.others...), parse(t, c.doc))
		})
	}
}

func TestStrip(t *testing.T) { // P15.1: the tree is stripped by the sheet's names
	const doc = "<a> <b> </b> <p:b xmlns:p='u'> </p:b>x </a>"
	const rest = "[" + "<x:value-of select='count(//text())'/>" + "]"
	expectAll(t, []row{
		{doc, rule("/", rest+value(".")), "[5]    x "},
		{doc, "<x:strip-space elements='*'/>" + rule("/", rest+value(".")), "[1]x "},
		{doc, "<x:strip-space elements='b'/>" + rule("/", rest+value(".")), "[4]   x "},
		{doc, "<x:strip-space elements='p:b a' xmlns:p='u'/>" + rule("/", rest+value(".")), "[2] x "},
	})
}

func TestRootAndPlaces(t *testing.T) { // P15.1: where a run begins, and where rules and globals are asked
	expectAll(t, []row{
		{"<a/>", rule("/", value("concat(count(ancestor-or-self::node()), position(), last())")), "111"},
		{"<a/>", "<x:variable name='v' select='concat(count(ancestor-or-self::node()), position(), last())'/>" + rule("/", value("$v")), "111"},
		{"<a/>", "<x:variable name='v'>" + value("concat(count(ancestor-or-self::node()), position(), last())") + "</x:variable>" + rule("a", value("$v")), "111"},
		{"<a><b/><b/></a>", rule("a", "<x:apply-templates select='b'/>") + rule("b", value("concat(position(), last())")), "1222"},
		{"<a><b/><b/></a>", rule("b", "<x:call-template name='n'/>") + named("n", value("concat(name(), position(), last())")), "b12b22"},
	})
}

func TestTokens(t *testing.T) { // P15.1: the answer's tokens, of several trees too
	p := load(t, rule("/", "x<b i='1'/><!-- of the stylesheet -->y<x:comment>c</x:comment>"))
	a, e := xrun.Run(p, parse(t, "<a/>"), 100)
	want := []api.Token{{Kind: api.Text, Text: "x"}, {Kind: api.Element, Name: "b", Attrs: []api.Pair{{Name: "i", Value: "1"}}}, {Kind: api.End, Name: "b"}, {Kind: api.Text, Text: "y"}, {Kind: api.Comment, Text: "c"}}
	if e != api.OK || !reflect.DeepEqual(a.Tokens, want) {
		t.Errorf("%+v, %d", a, e)
	}
	a, e = xrun.Run(load(t, rule("/", "")), parse(t, "<a/>"), 100)
	if e != api.OK || len(a.Tokens) != 0 || len(a.Messages) != 0 || a.Fuel != 1 {
		t.Errorf("%+v, %d", a, e)
	}
}

func TestMessages(t *testing.T) { // P15.1: messages, and what ends all
	const doc = "<a><b/><b/></a>"
	say := func(s string) string { return "<x:message>" + s + "</x:message>" }
	stop := func(s string) string { return "<x:message terminate='yes'>" + s + "</x:message>" }
	expectAll(t, []row{
		{doc, rule("/", say("1")+"<o>"+say("2")+"</o>"+say("")), "<o/> (1) (2) ()"},
		{doc, rule("b", say(value("position()"))+"x"), "xx (1) (2)"},
		{doc, rule("/", "<x:message terminate='no'>1</x:message>"), " (1)"},
		// All texts of what is built.
		{doc, rule("/", say("a<i j='1'>b<x:comment>c</x:comment></i>d")), " (abd)"},
		// Also where a text is made, and in globals, and in one another.
		{doc, "<x:variable name='v'>x" + say("0") + "</x:variable>" + rule("/", "<o><x:attribute name='p'>"+say("1")+"y</x:attribute>"+value("$v")+"</o>"), `<o p="y">x</o> (0) (1)`},
		{doc, rule("/", say("a"+say("b")+"c")), " (b) (ac)"},
		{doc, "<x:variable name='v'>" + say("0") + "</x:variable>" + rule("/", ""), " (0)"},
	})
	x := parse(t, doc)
	refuse(t, api.ErrStop, load(t, rule("/", stop("1"))), x, "1")
	refuse(t, api.ErrStop, load(t, rule("/", "<o>"+say("1")+stop("2<p/>")+say("3")+"</o>")), x, "1", "2")
	refuse(t, api.ErrStop, load(t, rule("b", say(value("position()"))+"<x:if test='position() = 2'>"+stop("")+"</x:if>")), x, "1", "2", "")
	refuse(t, api.ErrStop, load(t, "<x:variable name='v'>"+stop("0")+"</x:variable>"+rule("/", say("1"))), x, "0")
	refuse(t, api.ErrStop, load(t, rule("/", say("a"+stop("b")))), x, "b")
	// Of other errors none are told.
	refuse(t, api.ErrName, load(t, rule("/", say("1")+value("$v"))), x)
	refuse(t, api.ErrName, load(t, rule("/", stop("1"+value("$v")))), x)
}

func TestWords(t *testing.T) { // P15.1: texts as they stand
	expectAll(t, []row{
		{"<a/>", rule("/", " x &lt;{.}<x:text> </x:text>"), " x &lt;{.} "},
		{"<a/>", rule("/", "<x:text/> "), ""},
		{"<a>1</a>", rule("a", "x"+value(".")+"y") + rule("/", "<o>"+applyAll+applyAll+"</o>"), "<o>x1yx1y</o>"},
	})
	if s := strings.Repeat("x", api.MaxText-1000); true {
		p := load(t, rule("/", s))
		a, e := xrun.Run(p, parse(t, "<a/>"), 2)
		if e != api.OK || len(a.Tokens) != 1 || a.Tokens[0].Text != s {
			t.Error(e)
		}
	}
}
