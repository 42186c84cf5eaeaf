package xrun_test

import (
	"math"
	"reflect"
	"strings"
	"testing"

	"stencil/api"
	"stencil/xcode"
	"stencil/xdm"
	"stencil/xrun"
)

func TestArguments(t *testing.T) { // P15.1: ErrNil, ErrRange; P1: arguments of any kind
	p, x := load(t, ""), parse(t, "<a>x</a>")
	for _, c := range []struct {
		want   api.Errno
		p      *xcode.Program
		t      *xdm.Tree
		fuel   int
		params []api.Pair
	}{
		{api.ErrNil, nil, x, 100, nil},
		{api.ErrNil, p, nil, 100, nil},
		{api.ErrNil, nil, nil, -1, []api.Pair{{}}},
		{api.ErrNil, nil, x, -1, nil},
		{api.ErrRange, p, x, -1, nil},
		{api.ErrRange, p, x, math.MinInt, nil},
		{api.ErrRange, p, x, api.MaxFuel + 1, nil},
		{api.ErrRange, p, x, math.MaxInt, nil},
		{api.ErrFuel, p, x, 0, nil},
		{api.ErrFuel, p, x, 2, nil},
		{api.OK, p, x, 3, nil},
		{api.OK, p, x, api.MaxFuel, nil},
		{api.ErrRange, p, x, 0, []api.Pair{{Name: "", Value: "x"}}},
		{api.ErrRange, p, x, 9, []api.Pair{{Name: "a:b:c", Value: "x"}}},
		{api.ErrRange, p, x, 9, []api.Pair{{Name: "1", Value: "x"}}},
		{api.ErrRange, p, x, 9, []api.Pair{{Name: "a\xff", Value: "x"}}},
		{api.ErrRange, p, x, 9, []api.Pair{{Name: "a b"}}},
		{api.ErrRange, p, x, 9, []api.Pair{{Name: "a", Value: "\x00"}}},
		{api.ErrRange, p, x, 9, []api.Pair{{Name: "a", Value: "\xff"}}},
		{api.ErrRange, p, x, 9, []api.Pair{{Name: "a", Value: "x"}, {Name: "a", Value: "\x01"}}},
		{api.ErrRange, p, x, 9, []api.Pair{{Name: "a", Value: strings.Repeat("x", api.MaxText+1)}}},
		{api.OK, p, x, 9, []api.Pair{{Name: "a", Value: strings.Repeat("x", api.MaxText)}, {Name: "p:a", Value: "\t<é"}}},
	} {
		a, e := xrun.Run(c.p, c.t, c.fuel, c.params...)
		if e != c.want || (e != api.OK) != reflect.DeepEqual(a, xrun.Answer{}) {
			t.Errorf("fuel %d: %+v, %d, want %d", c.fuel, a, e, c.want)
		}
	}
	// What no call made of these tells something, too, or nothing, but ends.
	xrun.Run(&xcode.Program{}, x, 100)
	xrun.Run(p, &xdm.Tree{}, 100)
	xrun.Run(load(t, variable("v", "/a")), &xdm.Tree{}, 100)
}

// failing is an error, a rule of / that has it, and what else the stylesheet has.
type failing struct {
	want       api.Errno
	body, more string
}

func refuseAll(t *testing.T, doc string, all []failing) {
	t.Helper()
	for _, f := range all {
		t.Run(f.body+f.more, func(t *testing.T) {
			t.Helper()
			refuse(t, f.want, load(t, f.more+rule("/", f.body)), parse(t, doc))
		})
	}
}

func pi(name, body string) string {
	return "<x:processing-instruction name=\"" + name + "\">" + body + "</x:processing-instruction>"
}

func comment(body string) string { return "<x:comment>" + body + "</x:comment>" }

func apply(of, body string) string {
	return "<x:apply-templates select=\"" + of + "\">" + body + "</x:apply-templates>"
}

func number(of, format string) string {
	return "<x:number value=\"" + of + "\" format=\"" + format + "\"/>"
}

func TestErrors(t *testing.T) { // P15.1: each error of an instruction
	none := value("$none")
	refuseAll(t, "<a i='1'>x<b/></a>", []failing{
		// Of expressions, wherever they stand.
		{api.ErrName, none, ""},
		{api.ErrKind, value("count(1)"), ""},
		{api.ErrMark, value("format-number(1, '')"), ""},
		{api.ErrName, "<x:copy-of select='$none'/>", ""},
		{api.ErrName, apply("$none", ""), ""},
		{api.ErrName, apply("a", "<x:sort select='$none'/>"), ""},
		{api.ErrName, apply("a", "<x:with-param name='v' select='$none'/>"), ""},
		{api.ErrName, apply("a", "<x:with-param name='v'>"+none+"</x:with-param>"), ""},
		{api.ErrName, each("$none", ""), ""},
		{api.ErrName, each("a", none), ""},
		{api.ErrName, each("a", "<x:sort select='$none' data-type='number'/>"), ""},
		{api.ErrName, "<x:if test='$none'/>", ""},
		{api.ErrName, "<x:if test='1'>" + none + "</x:if>", ""},
		{api.ErrName, "<x:choose><x:when test='0'/><x:when test='$none'/></x:choose>", ""},
		{api.ErrName, "<x:choose><x:when test='0'/><x:otherwise>" + none + "</x:otherwise></x:choose>", ""},
		{api.ErrName, variable("v", "$none"), ""},
		{api.ErrName, "<x:variable name='v'>" + none + "</x:variable>", ""},
		{api.ErrName, "<x:param name='v' select='$none'/>", ""},
		{api.ErrName, "<x:call-template name='n'/>", named("n", none)},
		{api.ErrName, "<x:call-template name='n'><x:with-param name='v' select='$none'/></x:call-template>", named("n", "")},
		{api.ErrName, element("{$none}", ""), ""},
		{api.ErrName, element("b", none), ""},
		{api.ErrName, "<o>" + attribute("{$none}", "") + "</o>", ""},
		{api.ErrName, "<o>" + attribute("b", none) + "</o>", ""},
		{api.ErrName, "<o p='{$none}'/>", ""},
		{api.ErrName, comment(none), ""},
		{api.ErrName, pi("{$none}", ""), ""},
		{api.ErrName, pi("p", none), ""},
		{api.ErrName, "<x:message>" + none + "</x:message>", ""},
		{api.ErrName, number("$none", "1"), ""},
		{api.ErrName, number("1", "{$none}"), ""},
		{api.ErrName, "<x:copy>" + none + "</x:copy>", ""},
		{api.ErrName, "", variable("v", "$none")},
		{api.ErrName, "", "<x:param name='v'>" + none + "</x:param>"},
		{api.ErrName, applyAll, rule("b", none)},
		// A variable does not hold ahead of its body's place, behind its body, or in another template.
		{api.ErrName, value("$v") + variable("v", "1"), ""},
		{api.ErrName, "<o>" + variable("v", "1") + "</o>" + value("$v"), ""},
		{api.ErrName, each("a", variable("v", "1")) + value("$v"), ""},
		{api.ErrName, "<x:if test='1'>" + variable("v", "1") + "</x:if>" + value("$v"), ""},
		{api.ErrName, "<x:variable name='w'>" + variable("v", "1") + "</x:variable>" + value("$v"), ""},
		{api.ErrName, variable("v", "$v"), ""},
		{api.ErrName, variable("v", "1") + applyAll, rule("a", value("$v"))},
		{api.ErrName, variable("v", "1") + "<x:call-template name='n'/>", named("n", value("$v"))},
		{api.ErrName, "", "<x:variable name='w'><x:call-template name='n'/></x:variable>" + variable("v", "1") + named("n", value("$v"))},
		// Of what is built.
		{api.ErrBuild, attribute("b", ""), ""},
		{api.ErrBuild, "<o>x" + attribute("b", "") + "</o>", ""},
		{api.ErrBuild, "<o><i/>" + attribute("b", "") + "</o>", ""},
		{api.ErrBuild, "<o>" + comment("") + attribute("b", "") + "</o>", ""},
		{api.ErrBuild, "<x:copy-of select='a/@i'/>", ""},
		{api.ErrBuild, "<x:copy-of select='a|a/@i'/>", ""},
		{api.ErrBuild, each("a/@i", "<x:copy/>"), ""},
		{api.ErrBuild, "<o><x:variable name='v'>" + attribute("b", "") + "</x:variable></o>", ""},
		{api.ErrForm, comment("a--b"), ""},
		{api.ErrForm, comment("a-"), ""},
		{api.ErrForm, pi("xml", ""), ""},
		{api.ErrForm, pi("XmL", ""), ""},
		{api.ErrForm, pi("1", ""), ""},
		{api.ErrForm, pi("", ""), ""},
		{api.ErrForm, pi("p", "a?>"), ""},
		{api.ErrForm, pi("p", "<x:text> a</x:text>"), ""},
		{api.ErrForm, "<o>" + attribute("xmlns", "u") + "</o>", ""},
		// Of names.
		{api.ErrPrefix, element("p:b", ""), ""},
		{api.ErrPrefix, element("xmlns:b", ""), ""},
		{api.ErrPrefix, "<o>" + attribute("p:b", "") + "</o>", ""},
		{api.ErrPrefix, "<o>" + attribute("xmlns:b", "") + "</o>", ""},
		{api.ErrPrefix, "<o xmlns:p='u'/>" + element("{'p'}:b", ""), ""},
		{api.ErrForm, element("", ""), ""},
		{api.ErrForm, element("1", ""), ""},
		{api.ErrForm, element(" b", ""), ""},
		{api.ErrForm, element("p:q:b", ""), ""},
		{api.ErrForm, element("p:", ""), ""},
		{api.ErrForm, "<o>" + attribute("", "") + "</o>", ""},
		{api.ErrForm, "<o>" + attribute("b c", "") + "</o>", ""},
		{api.ErrForm, "<o>" + attribute(":b", "") + "</o>", ""},
		// Of numbers.
		{api.ErrMark, number("1", "x"), ""},
		{api.ErrMark, number("1", ""), ""},
		{api.ErrMark, number("1", "{'10'}"), ""},
		{api.ErrMark, "<x:number format='aa'/>", ""},
		{api.ErrRange, number("0", "1"), ""},
		{api.ErrRange, number("0.499999", "1"), ""},
		{api.ErrRange, number("-1", "1"), ""},
		{api.ErrRange, number("1000000000.5", "1"), ""},
		{api.ErrRange, number("1 div 0", "1"), ""},
		{api.ErrRange, number("-1 div 0", "1"), ""},
		{api.ErrRange, number("'x'", "1"), ""},
		{api.ErrRange, number("none", "1"), ""},
		// Of what is no nodes.
		{api.ErrKind, apply("1", ""), ""},
		{api.ErrKind, apply("''", ""), ""},
		{api.ErrKind, apply("true()", ""), ""},
		{api.ErrKind, each("1", ""), ""},
		{api.ErrKind, each("concat(a, 1)", "<x:sort/>"), ""},
		{api.ErrKind, variable("v", "1") + each("$v", ""), ""},
		{api.ErrKind, "<x:variable name='v'><b/></x:variable>" + apply("$v", ""), ""},
	})
}

func TestOrderOfErrors(t *testing.T) { // P15.1: instruction by instruction, the first one
	none, mark, kind := value("$none"), number("1", "x"), each("1", "")
	refuseAll(t, "<a><b/></a>", []failing{
		{api.ErrName, none + mark + kind, ""},
		{api.ErrMark, mark + none + kind, ""},
		{api.ErrKind, kind + mark + none, ""},
		{api.ErrMark, "<o><i>" + mark + "</i>" + none + "</o>", ""},
		{api.ErrMark, applyAll + none, rule("b", mark)},
		{api.ErrMark, "<x:call-template name='n'/>" + none, named("n", mark)},
		// Globals ahead, in their order.
		{api.ErrMark, none, "<x:variable name='v'>" + mark + "</x:variable>"},
		{api.ErrKind, none, "<x:variable name='v'>" + value("$w") + mark + "</x:variable><x:variable name='w'>" + kind + "</x:variable>"},
		// A name is asked ahead of what is within, and what is made ahead of that too, but where it is a text.
		{api.ErrForm, element("1", none), ""},
		{api.ErrPrefix, element("p:b", none), ""},
		{api.ErrName, element("{$none}", mark), ""},
		{api.ErrForm, "<o>" + attribute("1", none) + "</o>", ""},
		{api.ErrPrefix, attribute("p:b", none), ""},
		{api.ErrName, attribute("b", none), ""},
		{api.ErrName, pi("xml", none), ""},
		{api.ErrMark, pi("1", mark), ""},
		{api.ErrName, pi("{$none}", mark), ""},
		{api.ErrName, "<o p='{$none}' q='{count(1)}'>" + mark + "</o>", ""},
		{api.ErrKind, "<o p='{count(1)}' q='{$none}'>" + mark + "</o>", ""},
		// A number ahead of its format.
		{api.ErrRange, number("0", "x"), ""},
		{api.ErrRange, number("0", "{$none}"), ""},
		{api.ErrKind, number("count(1)", "{$none}"), ""},
		// Which nodes, then their order, then what is handed in, then the templates.
		{api.ErrKind, apply("1", "<x:sort select='$none'/>"), ""},
		{api.ErrName, apply("a", "<x:with-param name='v' select='count(1)'/><x:sort select='$none'/>"), ""},
		{api.ErrKind, apply("a", "<x:with-param name='v' select='count(1)'/><x:with-param name='w' select='$none'/>"), rule("a", mark)},
		{api.ErrMark, apply("a", "<x:with-param name='v' select='1'/>"), rule("a", mark)},
		{api.ErrKind, apply("none", "<x:with-param name='v' select='count(1)'/>"), ""},
		// Sorts node by node.
		{api.ErrKind, apply("a|a/b", "<x:sort select=\"concat(count(self::a[/..|1]), '')\"/><x:sort select='$none'/>"), ""},
		{api.ErrName, apply("a|a/b", "<x:sort select='count(self::a) or count(1)'/><x:sort select='$none'/>"), ""},
		{api.ErrKind, each("a|a/b", "<x:sort select='count(self::a) or count(1)'/><x:sort select='count(self::a) or $none'/>"), ""},
		// A message that ends all is asked for its text ahead.
		{api.ErrMark, "<x:message terminate='yes'>" + mark + "</x:message>", ""},
	})
}

func TestLimitsOfWhatIsBuilt(t *testing.T) { // P15.1: xbuild's limits
	x := parse(t, "<a>"+strings.Repeat("<b/>", 1500)+"</a>")
	deep := func(levels string) string {
		return rule("/", "<x:call-template name='n'><x:with-param name='k' select='"+levels+"'/></x:call-template>") +
			named("n", "<x:param name='k'/><x:if test='$k'><i><x:call-template name='n'><x:with-param name='k' select='$k - 1'/></x:call-template></i></x:if>")
	}
	expect(t, strings.Repeat("<i>", 31)+"<i/>"+strings.Repeat("</i>", 31), load(t, deep("32")), x)
	refuse(t, api.ErrLimit, load(t, deep("33")), x)
	// A text is built by itself.
	expect(t, strings.Repeat(`<i p="x">`, 31)+`<i p="x"/>`+strings.Repeat("</i>", 31), load(t, strings.Replace(deep("32"), "<i>", "<i><x:attribute name='p'><j>x</j></x:attribute>", 1)), x)
}

func TestLimitOfNodes(t *testing.T) { // P15.1: xbuild's limits of nodes and attributes
	x := parse(t, "<a>"+strings.Repeat("<b/>", 2000)+"</a>")
	nodes := func(rest string) string {
		return rule("/", each("//b", "<i/>")+each("//b", "<i/>")+each("//b[position() &lt;= "+rest+"]", "<i/>"))
	}
	if a, e := xrun.Run(load(t, nodes("96")), x, api.MaxFuel); e != api.OK || len(a.Tokens) != 2*api.MaxNodes {
		t.Error(len(a.Tokens), e)
	}
	refuse(t, api.ErrLimit, load(t, nodes("97")), x)
	refuse(t, api.ErrLimit, load(t, nodes("96")+rule("/", each("//b", "<i/>")+each("//b", "<i/>")+"<x:copy-of select='/a/b[position() &lt; 98]'/>")), x)
	attrs := func(count string) string {
		return rule("/", "<o>"+each("//b[position() &lt;= "+count+"]", attribute("p{position()}", ""))+"</o>")
	}
	if a, e := xrun.Run(load(t, attrs("64")), x, api.MaxFuel); e != api.OK || len(a.Tokens[0].Attrs) != api.MaxAttrs {
		t.Error(a, e)
	}
	refuse(t, api.ErrLimit, load(t, attrs("65")), x)
}

func TestFrames(t *testing.T) { // P15.1: templates lie at most MaxFrames in each other
	call := func(k string) string {
		return "<x:call-template name='n'><x:with-param name='k' select='" + k + "'/></x:call-template>"
	}
	calls := named("n", "<x:param name='k'/><x:if test='$k &gt; 1'>"+call("$k - 1")+"</x:if>")
	x := parse(t, "<a>x</a>")
	expect(t, "", load(t, calls+rule("/", call("63"))), x)
	refuse(t, api.ErrLimit, load(t, calls+rule("/", call("64"))), x)
	refuse(t, api.ErrLimit, load(t, named("n", "<x:call-template name='n'/>")+rule("/", "<x:call-template name='n'/>")), x)
	// One behind the other is not in each other.
	expect(t, "", load(t, calls+rule("/", call("63")+call("63"))), x)
	// In a global no template lies around.
	expect(t, "", load(t, "<x:variable name='v'>"+call("64")+"</x:variable>"+calls+rule("/", "")), x)
	refuse(t, api.ErrLimit, load(t, "<x:variable name='v'>"+call("65")+"</x:variable>"+calls+rule("/", "")), x)
	// Rules, by templates that are applied at one node.
	applied := func(k string) string {
		return "<x:apply-templates select='/' mode='m'><x:with-param name='k' select='" + k + "'/></x:apply-templates>"
	}
	rules := ruleWith("/", "mode='m'", "<x:param name='k'/><x:if test='$k &gt; 1'>"+applied("$k - 1")+"</x:if>")
	expect(t, "", load(t, rules+rule("/", applied("63"))), x)
	refuse(t, api.ErrLimit, load(t, rules+rule("/", applied("64"))), x)
	// Those that stand without one, too: 61 calls, a and its text.
	last := named("n", "<x:param name='k'/><x:choose><x:when test='$k &gt; 1'>"+call("$k - 1")+"</x:when><x:otherwise><x:apply-templates/></x:otherwise></x:choose>")
	expect(t, "x", load(t, last+rule("/", call("61"))), x)
	refuse(t, api.ErrLimit, load(t, last+rule("/", call("62"))), x)
	refuse(t, api.ErrLimit, load(t, last+rule("/", call("63"))), x)
	// Comments as well, though nothing comes of them.
	expect(t, "", load(t, last+rule("/", call("61"))), parse(t, "<a><!--c--></a>"))
	refuse(t, api.ErrLimit, load(t, last+rule("/", call("62"))), parse(t, "<a><!--c--></a>"))
	expect(t, "", load(t, last+rule("/", call("62"))), parse(t, "<a/>"))
	// apply-imports: the root's rule, 62 calls, the imported rule.
	up := strings.Replace(last, applyAll, "<x:apply-imports/>", 1)
	expect(t, "i", load(t, "<x:import href='i'/>"+up+rule("/", call("62")), "i", rule("/", "i")), x)
	refuse(t, api.ErrLimit, load(t, "<x:import href='i'/>"+up+rule("/", call("63")), "i", rule("/", "i")), x)
	// What the call hands in is asked ahead, fuel too.
	fails := strings.Replace(last, applyAll, "<x:call-template name='m'><x:with-param name='v' select='$none'/></x:call-template>", 1) + named("m", "")
	refuse(t, api.ErrName, load(t, fails+rule("/", call("63"))), x)
}

func TestFrameWithoutFuel(t *testing.T) { // P15.1: ErrFuel is named ahead of ErrLimit
	x := parse(t, "<a/>")
	p := load(t, ruleWith("/", "mode='m'", "<x:apply-templates select='/' mode='m'/>")+rule("/", "<x:apply-templates select='/' mode='m'/>"))
	// Each rule takes one for its node, one for its instruction, one for the path.
	need := 3 * api.MaxFrames
	if _, e := xrun.Run(p, x, need); e != api.ErrFuel {
		t.Error(e)
	}
	if _, e := xrun.Run(p, x, need+1); e != api.ErrLimit {
		t.Error(e)
	}
}

func TestLimitOfTexts(t *testing.T) { // P15.1: a body's text, and that of a text's template
	half := strings.Repeat("x", api.MaxText/2)
	x := parse(t, "<a>"+strings.Repeat("y", 10)+"</a>")
	in := func(name, body string) string { return "<x:" + name + ">" + body + "</x:" + name + ">" }
	for _, c := range []struct {
		name string
		body func(text string) string
	}{
		{"attribute", func(s string) string { return "<o>" + attribute("p", s) + "</o>" }},
		{"comment", func(s string) string { return in("comment", s) }},
		{"pi", func(s string) string { return pi("p", s) }},
		{"message", func(s string) string { return in("message", s) }},
		{"variable", func(s string) string { return "<x:variable name='v'>" + s + "</x:variable>" }},
		{"param", func(s string) string { return "<x:call-template name='n'/>" }},
		{"with", func(s string) string {
			return "<x:call-template name='m'><x:with-param name='v'>" + s + "</x:with-param></x:call-template>"
		}},
		{"element in it", func(s string) string { return in("message", "<o>"+s+"</o>") }},
	} {
		p := func(s string) *xcode.Program {
			return load(t, "<x:param name='h'/><x:param name='k'/>"+named("n", "<x:param name='v'>"+s+"</x:param>")+named("m", "")+rule("/", c.body(s)))
		}
		twice := value("$h") + value("$h")
		params := []api.Pair{{Name: "h", Value: half}, {Name: "k", Value: "x"}}
		if _, e := xrun.Run(p(twice), x, 1000, params...); e != api.OK {
			t.Error(c.name, e)
		}
		if a, e := xrun.Run(p(twice+value("$k")), x, 1000, params...); e != api.ErrLimit || !reflect.DeepEqual(a, xrun.Answer{}) {
			t.Error(c.name, e)
		}
	}
	for _, name := range []string{"element", "attribute", "pi", "literal", "number"} {
		body := func(s string) string {
			switch name {
			case "element":
				return element(s, "")
			case "attribute":
				return "<o>" + attribute(s, "") + "</o>"
			case "pi":
				return pi(s, "")
			case "literal":
				return "<o p='" + s + "'/>"
			}
			return number("1", "{substring($h, 1, 0)}"+strings.ReplaceAll(s, "$h", "translate($h, &quot;x&quot;, &quot;0&quot;)")+"1")
		}
		head := "<x:param name='h'/>"
		whole, more := "{$h}{$h}", "{$h}{$h}y"
		if name == "number" {
			whole, more = "{$h}{substring($h, 2)}", "{$h}{$h}"
		}
		param := api.Pair{Name: "h", Value: half}
		if _, e := xrun.Run(load(t, head+rule("/", body(whole))), x, 1000, param); e != api.OK {
			t.Error(name, e)
		}
		if _, e := xrun.Run(load(t, head+rule("/", body(more))), x, 1000, param); e != api.ErrLimit {
			t.Error(name, e)
		}
	}
	// The answer's own text may be longer.
	p := load(t, "<x:param name='h'/>"+rule("/", value("$h")+value("$h")+value("$h")))
	if a, e := xrun.Run(p, x, 1000, api.Pair{Name: "h", Value: half}); e != api.OK || len(a.Tokens[0].Text) != 3*len(half) {
		t.Error(e)
	}
}
