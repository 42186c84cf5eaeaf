package xrun_test

import (
	"testing"

	"stencil/api"
)

func attribute(name, body string) string {
	return "<x:attribute name=\"" + name + "\">" + body + "</x:attribute>"
}

func element(name, body string) string {
	return "<x:element name=\"" + name + "\">" + body + "</x:element>"
}

func variable(name, of string) string {
	return "<x:variable name='" + name + "' select=\"" + of + "\"/>"
}

func each(of, body string) string {
	return "<x:for-each select='" + of + "'>" + body + "</x:for-each>"
}

func TestLiteral(t *testing.T) { // P15.1: elements that stand for themselves
	const doc = "<a i='1'>x</a>"
	expectAll(t, []row{
		{doc, rule("/", "<o p='1' q=\"{a}-{{{a/@i}}}\"><i/>x</o>"), `<o p="1" q="x-{1}"><i/>x</o>`},
		// Prefixes: all but that of stylesheets are declared, used or not.
		{doc, rule("/", "<o xmlns:p='u'/>"), `<o xmlns:p="u"/>`},
		{doc, rule("/", "<o xmlns='v' xmlns:p='u'><p:i p:j='{a}' k=''/></o>"), `<o xmlns="v" xmlns:p="u"><p:i p:j="x" k=""/></o>`},
		{doc, rule("/", "<p:o xmlns:p='u'><o xmlns:p='v'><p:o/></o><p:o/></p:o>"), `<p:o xmlns:p="u"><o xmlns:p="v"><p:o/></o><p:o/></p:o>`},
		{doc, rule("/", "<o xmlns:y='http://www.w3.org/1999/XSL/Transform'/>"), `<o/>`},
		{doc, rule("/", "<o xml:lang='en'/>"), `<o xml:lang="en"/>`},
		{doc, rule("/", "<o xmlns='v'><i xmlns=''/></o>"), `<o xmlns="v"><i xmlns=""/></o>`},
		// Those around the template too.
		{doc, "<x:template match='/' xmlns:p='u'><o><i/></o></x:template>", `<o xmlns:p="u"><i/></o>`},
		// Attributes of stylesheets play no part.
		{doc, rule("/", "<o x:p='1' q='2'/>"), `<o q="2"/>`},
		// Without a prefix an attribute has no Uri: one that is made of that name takes its place.
		{doc, rule("/", "<o xmlns='v' p='1' q='2'>"+attribute("p", "3")+"</o>"), `<o xmlns="v" p="3" q="2"/>`},
		{doc, rule("/", "<o xmlns:u='v' u:p='1' p='2' xmlns:w='v'>"+attribute("w:p", "3")+"</o>"), `<o xmlns:u="v" xmlns:w="v" w:p="3" p="2"/>`},
	})
}

func TestValueOf(t *testing.T) { // P15.1: the text of what is selected
	expectAll(t, []row{
		{"<a>x<b>y</b>z</a>", rule("/", value("a")), "xyz"},
		{"<a><b>1</b><b>2</b></a>", rule("/", value("a/b")), "1"},
		{"<a/>", rule("/", "["+value("b")+"]"), "[]"},
		{"<a/>", rule("/", value("1 div 4")+value("1 = 1")+value("'&lt;'")+value("1 div 0")), "0.25true&lt;Infinity"},
		{"<a p:i='1' xmlns:p='u'/>", rule("/", "<o xmlns:q='u'>"+value("a/@q:i")+"</o>"), `<o xmlns:q="u">1</o>`},
	})
}

func TestCopyOf(t *testing.T) { // P15.1: copies of nodes, the text of others
	const doc = "<!--t--><p:a i='1' p:j='2' xmlns:p='u' xmlns:unused='w'>x<b><!--c--><?q r?></b><p:a xmlns:p='v'/>y</p:a>"
	of := func(s string) string { return "<x:copy-of select=\"" + s + "\"/>" }
	const all = `<p:a xmlns:p="u" i="1" p:j="2">x<b><!--c--><?q r?></b><p:a xmlns:p="v"/>y</p:a>`
	expectAll(t, []row{
		{doc, rule("/", of("/")), "<!--t-->" + all},
		{doc, rule("/", of("*")), all},
		{doc, rule("/", "<o>"+of("*/*")+"</o>"), `<o><b><!--c--><?q r?></b><p:a xmlns:p="v"/></o>`},
		{doc, rule("/", "<o>"+of("*/@*")+"</o>"), `<o xmlns:p="u" i="1" p:j="2"/>`},
		{doc, rule("/", of("//text()|//comment()|//processing-instruction()")), "<!--t-->x<!--c--><?q r?>y"},
		{doc, rule("/", of("1 + 1")+of("'s'")+of("1 = 2")+of("/none")), "2sfalse"},
		{doc, rule("/", "<o>"+of("*/node()[1]|*/text()")+"</o>"), "<o>xy</o>"},
		// Each once, in document order.
		{"<a><b/><c/></a>", rule("/", of("//c|//b|//c")), "<b/><c/>"},
		// What stands around is not declared again, what does not is.
		{"<p:a xmlns:p='u'><p:b/></p:a>", rule("/", "<p:o xmlns:p='u'>"+of("*/*")+"</p:o>"), `<p:o xmlns:p="u"><p:b/></p:o>`},
		{"<p:a xmlns:p='u'><p:b/></p:a>", rule("/", "<p:o xmlns:p='v'>"+of("*/*")+"</p:o>"), `<p:o xmlns:p="v"><p:b xmlns:p="u"/></p:o>`},
		{"<a/>", rule("/", "<o xmlns='v'>"+of("*")+"</o>"), `<o xmlns="v"><a xmlns=""/></o>`},
	})
}

func TestCopy(t *testing.T) { // P15.1: a node without what is in it, with what the instruction has
	const copied = "<x:copy>k</x:copy>"
	const doc = "<p:a xmlns:p='u' p:i='1'>x<!--c--><?q r?><b/></p:a>"
	expectAll(t, []row{
		{doc, rule("/", copied), "k"},
		{doc, rule("*", copied), `<p:a xmlns:p="u">k</p:a>`},
		{doc, rule("*", "<o>"+each("@*", copied)+"</o>"), `<o xmlns:p="u" p:i="1"/>`},
		{doc, rule("*", "<o>"+each("node()", copied)+"</o>"), "<o>x<!--c--><?q r?><b>k</b></o>"},
		{doc, rule("*", "<x:copy>"+attribute("j", "2")+"<i/></x:copy>"), `<p:a xmlns:p="u" j="2"><i/></p:a>`},
	})
}

func TestApplyAndSelect(t *testing.T) { // P15.1: which nodes templates are applied to
	const doc = "<a i='1'>x<b>y</b><c>z</c></a>"
	expectAll(t, []row{
		{doc, rule("a", applyAll), "xyz"},
		{doc, rule("a", "<x:apply-templates select='c|b'/>"), "yz"},
		{doc, rule("a", "<x:apply-templates select='c'/><x:apply-templates select='b'/>"), "zy"},
		{doc, rule("a", "[<x:apply-templates select='none'/>]"), "[]"},
		{doc, rule("c", "<x:apply-templates select='../b'/>"), "xyy"},
		{doc, rule("c", "<x:apply-templates select='/' mode='m'/>") + ruleWith("/", "mode='m'", "!"), "xy!"},
	})
}

func TestForEach(t *testing.T) { // P15.1: a body for each node
	const doc = "<a><b>1</b><b>2</b><c>3</c></a>"
	expectAll(t, []row{
		{doc, rule("/", each("//b|//c", "<i p='{position()}{last()}'>"+value(".")+"</i>")), `<i p="13">1</i><i p="23">2</i><i p="33">3</i>`},
		{doc, rule("/", "["+each("none", "x")+"]"), "[]"},
		{doc, rule("/", each("//a", each("b", value("position()"))+value("position()"))), "121"},
		// The context is as before behind it.
		{doc, rule("a", each("b", "")+value("concat(name(), position(), last())")), "a11"},
	})
}

func TestIfAndChoose(t *testing.T) { // P15.1: by the truth of what is selected
	when := func(test, body string) string { return "<x:when test=\"" + test + "\">" + body + "</x:when>" }
	otherwise := func(body string) string { return "<x:otherwise>" + body + "</x:otherwise>" }
	choose := func(all string) string { return "<x:choose>" + all + "</x:choose>" }
	iff := func(test string) string { return "<x:if test=\"" + test + "\">" + test + " </x:if>" }
	const doc = "<a><b/></a>"
	expectAll(t, []row{
		{doc, rule("/", iff("1")+iff("0")+iff("-1")+iff("0 div 0")+iff("'x'")+iff("''")+iff("a/b")+iff("a/c")+iff("true()")+iff("false()")), "1 -1 'x' a/b true() "},
		{doc, rule("/", choose(when("1", "a")+when("1", "b")+otherwise("c"))), "a"},
		{doc, rule("/", choose(when("0", "a")+when("a", "b")+when("1", "d")+otherwise("c"))), "b"},
		{doc, rule("/", choose(when("0", "a")+when("''", "b")+otherwise("c<i/>"))), "c<i/>"},
		{doc, rule("/", "["+choose(when("0", "a")+when("''", "b"))+"]"), "[]"},
		// What is not needed is not asked.
		{doc, rule("/", choose(when("1", "a")+when("$none", "b"))), "a"},
		{doc, rule("/", choose(when("0", value("$none"))+otherwise("b"))), "b"},
	})
}

func TestCall(t *testing.T) { // P15.1: templates by their names
	call := func(name, with string) string {
		return "<x:call-template name='" + name + "'>" + with + "</x:call-template>"
	}
	with := func(name, of string) string {
		return "<x:with-param name='" + name + "' select=\"" + of + "\"/>"
	}
	param := func(name, of string) string { return "<x:param name='" + name + "' select=\"" + of + "\"/>" }
	const doc = "<a><b>1</b><b>2</b></a>"
	expectAll(t, []row{
		{doc, rule("a", "<o>"+call("n", "")+"</o>") + named("n", value("name()")), "<o>a</o>"},
		{doc, rule("a", call("n", with("v", "'x'"))) + named("n", "<x:param name='v'/>"+value("$v")), "x"},
		{doc, rule("a", call("n", with("v", "'x'")+with("w", "'y'"))) + named("n", param("w", "3")+param("v", "4")+param("u", "5")+value("concat($u, $v, $w)")), "5xy"},
		{doc, rule("a", call("n", "<x:with-param name='v'>p<i>q</i></x:with-param>")) + named("n", "<x:param name='v'/>"+value("$v")), "pq"},
		// Without: its select, what is in it, or the empty text.
		{doc, rule("a", call("n", "")) + named("n", param("v", "b[2]")+value("$v")), "2"},
		{doc, rule("a", call("n", "")) + named("n", "<x:param name='v'>p<i>q</i></x:param>"+value("$v")), "pq"},
		{doc, rule("a", call("n", "")) + named("n", "<x:param name='v'/>["+value("$v")+"]"+value("$v = ''")), "[]true"},
		// What is handed in is of any kind, and the template's select is not asked then.
		{doc, rule("a", call("n", with("v", "b"))) + named("n", param("v", "$none")+each("$v", value(".")+";")), "1;2;"},
		{doc, rule("a", call("n", with("v", "2 = 2"))) + named("n", param("v", "1")+value("$v")), "true"},
		{doc, rule("a", call("n", "<x:with-param name='v'/>")) + named("n", param("v", "1")+"["+value("$v")+"]"), "[]"},
		// Of one name the first one.
		{doc, rule("a", call("n", with("v", "1")+with("v", "2"))) + named("n", param("v", "3")+value("$v")), "1"},
		// A name that the template has no parameter of plays no part; nor are names handed further on.
		{doc, rule("a", call("n", with("u", "1"))) + named("n", param("v", "3")+value("$v")+call("m", "")) + named("m", param("u", "4")+value("$u")), "34"},
		// What is handed in is asked where the call stands.
		{doc, rule("b", "<x:variable name='w' select='7'/>"+call("n", with("v", "concat($w, position(), .)"))) + named("n", param("v", "3")+value("$v")+";"), "711;722;"},
		// One that needs itself.
		{doc, rule("/", call("n", with("k", "5"))) + named("n", param("k", "0")+value("$k")+"<x:if test='$k &gt; 0'>"+call("n", with("k", "$k - 1"))+"</x:if>"), "543210"},
		// apply-templates hands in likewise, to each node.
		{doc, rule("a", "<x:apply-templates select='b'>"+with("v", "concat(name(), position())")+"</x:apply-templates>") + rule("b", param("v", "0")+value("$v")+value(".")+";"), "a11;a12;"},
		{doc, rule("a", "<x:apply-templates select='b'><x:with-param name='v'>"+"<x:message>once</x:message>w</x:with-param></x:apply-templates>") + rule("b", param("v", "0")+value("$v")), "ww (once)"},
	})
}

func TestVariables(t *testing.T) { // P15.1: where they hold, and which one is the nearest
	expectAll(t, []row{
		{"<a/>", rule("/", variable("v", "1")+value("$v")+variable("v", "$v + 1")+value("$v")), "12"},
		{"<a/>", rule("/", variable("v", "1")+"<o>"+variable("v", "2")+value("$v")+"</o>"+value("$v")), "<o>2</o>1"},
		{"<a/>", rule("/", variable("v", "1")+"<x:if test='$v'>"+variable("v", "2")+value("$v")+"</x:if>"+value("$v")), "21"},
		{"<a><b/><b/></a>", rule("/", variable("v", "1")+each("//b", value("$v")+variable("v", "concat($v, 2)")+value("$v")+";")), "112;112;"},
		{"<a/>", variable("v", "1") + rule("/", value("$v")+variable("v", "2")+value("$v")+applyAll) + rule("a", value("$v")), "121"},
		{"<a/>", variable("v", "1") + rule("/", variable("v", "2")+"<x:call-template name='n'/>") + named("n", value("$v")), "1"},
		{"<a/>", rule("/", "<x:param name='v' select='1'/>"+variable("v", "$v + 1")+value("$v")), "2"},
		{"<a>x</a>", rule("/", variable("v", "a")+value("$v")+value("count($v/text())")), "x1"},
		{"<a>x</a>", rule("/", "<x:variable name='v'>p<i>q</i>"+value("a")+"</x:variable>"+value("$v")+value("string-length($v)")), "pqx3"},
		{"<a/>", rule("/", "<x:variable name='v'/>["+value("$v")+"]"), "[]"},
		{"<a/>", rule("/", variable("p:v", "1")+value("$p:v")), "1"},
		// Globals need each other in any order.
		{"<a>x</a>", variable("v", "concat($w, 1)") + variable("w", "/a") + rule("a", value("$v")), "x1"},
		{"<a>x</a>", "<x:variable name='v'>(" + value("$w") + ")</x:variable>" + variable("w", "2") + rule("a", value("$v")), "(2)"},
		{"<a>x</a>", "<x:variable name='v'><x:apply-templates select='a'/></x:variable>" + rule("/", "["+value("$v")+"]") + rule("a", "<i>A</i>"), "[A]"},
	})
}

func TestParams(t *testing.T) { // P15.1: what is handed in from outside
	x := parse(t, "<a>1</a>")
	pair := func(l ...string) []api.Pair {
		var all []api.Pair
		for i := 0; i < len(l); i += 2 {
			all = append(all, api.Pair{Name: l[i], Value: l[i+1]})
		}
		return all
	}
	all := rule("/", value("concat($v, ',', $w, ',', $u)"))
	p := load(t, "<x:param name='v' select='/a'/><x:param name='w'>x<i>y</i></x:param><x:variable name='u' select='3'/>"+all)
	expect(t, "1,xy,3", p, x)
	expect(t, "7,xy,3", p, x, pair("v", "7")...)
	expect(t, ",8,3", p, x, pair("w", "8", "v", "")...)
	expect(t, "7,xy,3", p, x, pair("v", "7", "v", "8", "none", "9", "u", "4")...)
	// It is a text, and what is not asked for can't be wrong.
	p = load(t, "<x:param name='p:v' select='$none'/>"+rule("/", value("$p:v = '07'")+value("$p:v")))
	expect(t, "true07", p, x, pair("p:v", "07")...)
	refuse(t, api.ErrName, p, x)
	// A parameter may need another global.
	p = load(t, "<x:param name='v' select='$w + 1'/><x:param name='w' select='1'/>"+rule("/", value("$v")))
	expect(t, "2", p, x)
	expect(t, "6", p, x, pair("w", "5")...)
	expect(t, "9", p, x, pair("v", "9")...)
}

func TestMake(t *testing.T) { // P15.1: nodes whose names are told
	comment := func(body string) string { return "<x:comment>" + body + "</x:comment>" }
	pi := func(name, body string) string {
		return "<x:processing-instruction name=\"" + name + "\">" + body + "</x:processing-instruction>"
	}
	in := func(scope, body string) string {
		return "<x:template match='/' " + scope + ">" + body + "</x:template>"
	}
	const doc = "<a i='n'>x</a>"
	expectAll(t, []row{
		{doc, rule("/", element("b{a}{a/@i}", "y<c/>")), "<bxn>y<c/></bxn>"},
		// What is not used is not declared.
		{doc, in("xmlns:p='u' xmlns:q='v'", element("{'p'}:b", element("c", ""))), `<p:b xmlns:p="u"><c/></p:b>`},
		{doc, in("xmlns='u'", element("b", "")), `<b xmlns="u"/>`},
		{doc, rule("/", element("xml:b", "")), "<xml:b/>"},
		{doc, rule("/", element("b", attribute("c{a}", "1<i>2</i>"+value("a"))+attribute("xml:lang", "en"))), `<b cx="12x" xml:lang="en"/>`},
		{doc, in("xmlns='u'", "<b>"+attribute("c", "1")+"</b>"), `<b xmlns="u" c="1"/>`},
		{doc, in("xmlns:p='u'", element("b", attribute("p:c", "1"))), `<b xmlns:p="u" p:c="1"/>`},
		{doc, in("xmlns:p='u'", element("p:b", attribute("p:c", "1"))), `<p:b xmlns:p="u" p:c="1"/>`},
		{doc, rule("/", "<b c='1' d='2'>"+attribute("c", "3")+attribute("e", "")+"</b>"), `<b c="3" d="2" e=""/>`},
		{doc, rule("/", comment("c<i>d</i>"+value("a"))+comment("")), "<!--cdx--><!---->"},
		{doc, rule("/", pi("p{a}", "q<i>r</i>")+pi("s", "")), "<?px qr?><?s?>"},
	})
}

func TestCount(t *testing.T) { // P15.1: numbers
	number := func(attrs string) string { return "<x:number " + attrs + "/>" }
	of := func(value string) string { return number("value=\"" + value + "\" format='1'") }
	const doc = "<a xmlns:p='u' xmlns:q='u' i='1' j='2'>x<b/><!--c--><p:b/><b/>y<?r s?><q:b/><?t s?><?r s?><!--d--></a>"
	expectAll(t, []row{
		{doc, rule("/", number("value='7'")+";"+number("value='28' format='a'")+";"+number("value='4' format='{\"I\"}'")+";"+number("value='4' format='00{1}'")), "7;ab;IV;004"},
		// Rounded.
		{doc, rule("/", of("0.5")+";"+of("1.499999")+";"+of("2.5")+";"+of("1000000000.4")+";"+of("//@j")+";"+of("true()")), "1;1;3;1000000000;2;1"},
		// Siblings of the same kind and name that stand ahead.
		{doc, rule("/", each("*/node()", number("")+";")), "1;1;1;1;2;2;1;2;1;2;2;"},
		{doc, rule("/", number("")+each("*", number(""))+each("*/@j", number("format='i'"))), "11i"},
		{"<a><b/><b/><c/><b/></a>", rule("c", number("")) + rule("b", number("format='A'")), "AB1C"},
		{"<a><b/><x><b/></x><b/></a>", rule("b", number("")), "112"},
	})
}

func TestSorts(t *testing.T) { // P15.1: sorting
	apply := func(sorts string) string {
		return rule("/", "<x:apply-templates select='a/b'>"+sorts+"</x:apply-templates>") + rule("b", value("concat(., '-', position(), last(), ' ')"))
	}
	in := func(sorts string) string {
		return rule("/", "<x:for-each select='a/b'>"+sorts+value("concat(., '-', position(), last(), ' ')")+"</x:for-each>")
	}
	const doc = "<a><b k='x'>2</b><b k='z'>10</b><b k='x'>1</b><b>30</b></a>"
	for _, c := range []struct{ sorts, want string }{
		{"", "2-14 10-24 1-34 30-44 "},
		{"<x:sort/>", "1-14 10-24 2-34 30-44 "},
		{"<x:sort select='.'/>", "1-14 10-24 2-34 30-44 "},
		{"<x:sort data-type='text'/>", "1-14 10-24 2-34 30-44 "},
		{"<x:sort data-type='number'/>", "1-14 2-24 10-34 30-44 "},
		{"<x:sort data-type='number' order='descending'/>", "30-14 10-24 2-34 1-44 "},
		{"<x:sort order='descending'/>", "30-14 2-24 10-34 1-44 "},
		{"<x:sort order='ascending'/>", "1-14 10-24 2-34 30-44 "},
		// Alike ones stay as they are.
		{"<x:sort select='@k'/>", "30-14 2-24 1-34 10-44 "},
		{"<x:sort select='@k' order='descending'/>", "10-14 2-24 1-34 30-44 "},
		{"<x:sort select='1'/>", "2-14 10-24 1-34 30-44 "},
		// Several.
		{"<x:sort select='@k'/><x:sort data-type='number'/>", "30-14 1-24 2-34 10-44 "},
		{"<x:sort select='@k' order='descending'/><x:sort data-type='number'/>", "10-14 1-24 2-34 30-44 "},
		{"<x:sort select='string-length(.)' data-type='number' order='descending'/><x:sort select='.'/>", "10-14 30-24 1-34 2-44 "},
		// The place is the one that they had.
		{"<x:sort select='position()' data-type='number' order='descending'/>", "30-14 1-24 10-34 2-44 "},
		{"<x:sort select='position() = last()'/><x:sort select='-position()' data-type='number'/>", "1-14 10-24 2-34 30-44 "},
		// What is no number comes first.
		{"<x:sort select='translate(., \"1\", \"n\")' data-type='number'/>", "10-14 1-24 2-34 30-44 "},
		{"<x:sort select='$g'/>", "2-14 10-24 1-34 30-44 "},
	} {
		t.Run(c.sorts, func(t *testing.T) {
			const global = "<x:variable name='g' select='1'/>"
			expect(t, c.want, load(t, global+apply(c.sorts)), parse(t, doc))
			expect(t, c.want, load(t, global+in(c.sorts)), parse(t, doc))
		})
	}
	expectAll(t, []row{
		// Sorted where the instruction stands, with what holds there.
		{doc, rule("/", "<x:variable name='d' select='-1'/><x:apply-templates select='a/b'><x:sort select='$d * .' data-type='number'/><x:with-param name='v' select='$d'/></x:apply-templates>") +
			rule("b", "<x:param name='v'/>"+value("concat(., $v, ' ')")), "30-1 10-1 2-1 1-1 "},
		{doc, rule("/", each("none", "<x:sort/>")), ""},
	})
}
