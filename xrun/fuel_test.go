package xrun_test

import (
	"reflect"
	"strings"
	"testing"

	"stencil/api"
	"stencil/xrun"
)

func TestFuel(t *testing.T) { // P15.1: how much is taken; P15.2: with more the same
	const doc = "<a i='1'>x<b/><b/></a>" // the root, a, its text, b, b: five nodes that the rules that stand without one come to
	for _, c := range []struct {
		want  int
		rules string
	}{
		// Nodes, one each; words, one.
		{5, ""},
		{1, rule("/", "")},
		{2, rule("/", "x")},
		{5, rule("b", "")},
		{7, rule("b", "x")},
		{3, rule("/", "<o>x</o>")},
		{4, rule("/", "<o>x<i/></o>")},
		{1 + 1, rule("/", "<o p='x'/>")},
		{1 + 1 + 1 + 3, rule("/", "<o p='{1}{1 + 1}'/>")},
		// Expressions: each one that is asked for, and each node that a step looks at.
		{1 + 1 + 1, rule("/", value("1"))},
		{1 + 1 + 3, rule("/", value("1 + 1"))},
		{1 + 1 + 2, rule("/", value("."))},
		{1 + 1 + 2, rule("/", value("a"))},
		{1 + 1 + 5, rule("/", value("a/b"))},
		{1 + 1 + 2, rule("/", "<x:if test='1 or 1'/>")},
		{1 + 1 + 2, rule("/", "<x:copy-of select='a'/>")},
		{1 + 1 + 1, rule("/", variable("v", "1"))},
		{1 + 1 + 1 + 1 + 1, rule("/", variable("v", "1")+value("$v"))},
		// What is copied takes no more.
		{1 + 1, rule("/", "<x:copy/>")},
		{1 + 2, rule("/", "<x:copy>x</x:copy>")},
		// Templates: node() is an expression that looks at the kids.
		{1 + 1 + (1 + 1) + 4, rule("/", applyAll)},
		{1 + 1 + (1 + 1) + 1, rule("/", applyAll) + rule("a", "")},
		{1 + 1 + 5 + 2, rule("/", apply("a/b", ""))},
		{1 + 1 + 5 + 2*2, rule("/", apply("a/b", "")) + rule("b", "x")},
		{1 + 1 + 2, rule("/", apply("none", ""))},
		{1 + 1 + 3 + 1, rule("/", apply("a/@i", ""))},
		// What is handed in: its expression, or what is in it.
		{1 + 1 + 2 + 1 + 1, rule("/", apply("a", "<x:with-param name='v' select='1'/>")) + rule("a", "")},
		{1 + 1 + 2 + 2 + 1, rule("/", apply("a", "<x:with-param name='v'>x<i/></x:with-param>")) + rule("a", "")},
		{1 + 1 + 2 + 1 + 1 + 1, rule("/", apply("a", "<x:with-param name='v' select='1'/>")) + rule("a", "<x:param name='v' select='1 + 1'/>")},
		{1 + 1 + 2 + 0 + 1 + 1 + 3, rule("/", apply("a", "")) + rule("a", "<x:param name='v' select='1 + 1'/>")},
		// Sorts: . at each node.
		{1 + 1 + 5 + 2*2 + 2, rule("/", apply("a/b", "<x:sort/>"))},
		{1 + 1 + 5 + 2*1 + 2, rule("/", apply("a/b", "<x:sort select='1'/>"))},
		{1 + 1 + 5 + 2*(1+2) + 2, rule("/", apply("a/b", "<x:sort select='1'/><x:sort/>"))},
		// For each node what is done there; a sort stands there too, and takes one.
		{1 + 1 + 5, rule("/", each("a/b", ""))},
		{1 + 1 + 5 + 2, rule("/", each("a/b", "x"))},
		{1 + 1 + 5 + 2*1 + 2*2, rule("/", each("a/b", "<x:sort select='1'/>x"))},
		// Branches.
		{1 + 1 + 1 + 1, rule("/", "<x:if test='1'>x</x:if>")},
		{1 + 1 + 1, rule("/", "<x:if test='0'>x</x:if>")},
		{1 + 1 + 1 + 1, rule("/", "<x:choose><x:when test='1'>x</x:when><x:when test='1'>x</x:when></x:choose>")},
		{1 + 1 + 1 + 1 + 2, rule("/", "<x:choose><x:when test='0'>x</x:when><x:when test='0'>x</x:when><x:otherwise>x<i/></x:otherwise></x:choose>")},
		// Templates that are called take nothing beside their instructions.
		{1 + 1 + 2, rule("/", "<x:call-template name='n'/>") + named("n", "x<i/>")},
		{1 + 1 + 1, rule("/", "<x:call-template name='n'><x:with-param name='v' select='1'/></x:call-template>") + named("n", "")},
		// Texts.
		{1 + 1 + 1 + 1, rule("/", "<o>"+attribute("p", "x")+"</o>")},
		{1 + 1 + 1 + 2, rule("/", "<o>"+attribute("p{1}", "x")+"</o>")},
		{1 + 1 + 1, rule("/", comment("x"))},
		{1 + 1 + 1 + 1, rule("/", pi("p{1}", "x"))},
		{1 + 1 + 1 + 1, rule("/", element("p{1}", "x"))},
		{1 + 1 + 1, rule("/", "<x:message>x</x:message>")},
		// Numbers.
		{1 + 1, rule("/", "<x:number/>")},
		{1 + 1 + 1, rule("/", "<x:number format='{1}'/>")},
		{1 + 1 + 1 + 1, rule("/", number("1", "{1}"))},
		// Globals: one each, their expressions, and what is in them.
		{1 + 1 + 1, variable("v", "1") + rule("/", "")},
		{1 + 1 + 3, variable("v", "1 + 1") + rule("/", "")},
		{1 + 1, "<x:variable name='v'/>" + rule("/", "")},
		{1 + 1, "<x:param name='v'/>" + rule("/", "")},
		{1 + 1 + 1, "<x:param name='v' select='1'/>" + rule("/", "")},
		{1 + 2*(1+1), variable("v", "$w") + variable("w", "1") + rule("/", "")},
		{1 + 1 + 2, "<x:variable name='v'>x<i/></x:variable>" + rule("/", "")},
		{1 + 1 + 2, "<x:param name='v'>x<i/></x:param>" + rule("/", "")},
		{1 + 1 + 1 + 1 + 1, "<x:variable name='v'>" + variable("w", "1") + "x</x:variable>" + rule("/", "")},
		{1 + 1 + 1 + 2 + 2, "<x:variable name='v'>" + apply("a", "") + "</x:variable>" + rule("/", "") + rule("a", "x")},
		// Patterns take none.
		{1, rule("/", "") + rule("*[//*[//*]]", "") + rule("/", "")},
	} {
		checkFuel(t, c.want, c.rules, doc)
	}
}

// checkFuel looks at runs with too little fuel, with just as much as is needed, and with more.
func checkFuel(t *testing.T, want int, rules, doc string) {
	t.Helper()
	p, x := load(t, rules), parse(t, doc)
	all, e := xrun.Run(p, x, api.MaxFuel)
	if e != api.OK || all.Fuel != want {
		t.Errorf("%s: %d, error %d, want %d", rules, all.Fuel, e, want)
		return
	}
	for fuel := range want + 3 {
		a, e := xrun.Run(p, x, fuel)
		if fuel < want && (e != api.ErrFuel || !reflect.DeepEqual(a, xrun.Answer{})) {
			t.Errorf("%s, with %d: %+v, %d", rules, fuel, a, e)
		}
		if fuel >= want && (e != api.OK || !reflect.DeepEqual(a, all)) {
			t.Errorf("%s, with %d: %+v, %d, want %+v", rules, fuel, a, e, all)
		}
	}
}

func TestFuelOfImports(t *testing.T) { // P15.1: templates are applied to the node once more
	p := load(t, "<x:import href='i'/>"+rule("/", "<x:apply-imports/>"), "i", rule("/", "x"))
	a, e := xrun.Run(p, parse(t, "<a/>"), 100)
	if e != api.OK || a.Fuel != 1+1+1+1 {
		t.Error(a, e)
	}
	p = load(t, rule("/", "<x:apply-imports/>"))
	a, e = xrun.Run(p, parse(t, "<a/>"), 100)
	if e != api.OK || a.Fuel != 1+1+1+1 {
		t.Error(a, e)
	}
	p = load(t, "<x:variable name='v'><x:apply-imports/></x:variable>"+rule("/", ""))
	a, e = xrun.Run(p, parse(t, "<a/>"), 100)
	if e != api.OK || a.Fuel != 1+1+1 {
		t.Error(a, e)
	}
}

func TestFuelOfGivenParams(t *testing.T) { // P15.1: where a value is handed in the parameter takes one, its Select or Kids none
	x := parse(t, "<a/>")
	for _, c := range []struct {
		want   int
		rules  string
		params []api.Pair
	}{
		{1 + 1 + 3, "<x:param name='v' select='1 + 1'/>", nil},
		{1 + 1, "<x:param name='v' select='1 + 1'/>", []api.Pair{{Name: "v", Value: "x"}}},
		{1 + 1, "<x:param name='v' select='1 + 1'/>", []api.Pair{{Name: "v", Value: "x"}, {Name: "v", Value: "y"}}},
		{1 + 1, "<x:param name='v'>x<i/></x:param>", []api.Pair{{Name: "v", Value: "x"}}},
		{1 + 1 + 1 + 3, "<x:param name='v' select='1'/><x:param name='w' select='1 + 1'/>", []api.Pair{{Name: "v", Value: "x"}}},
		// Of a variable, or of another name, it is not.
		{1 + 1 + 3, variable("v", "1 + 1"), []api.Pair{{Name: "v", Value: "x"}}},
		{1 + 1 + 3, "<x:param name='v' select='1 + 1'/>", []api.Pair{{Name: "w", Value: "x"}}},
	} {
		p := load(t, c.rules+rule("/", ""))
		a, e := xrun.Run(p, x, c.want, c.params...)
		if e != api.OK || a.Fuel != c.want {
			t.Errorf("%s: %+v, %d, want %d", c.rules, a, e, c.want)
		}
		if _, e := xrun.Run(p, x, c.want-1, c.params...); e != api.ErrFuel {
			t.Errorf("%s, with %d: %d", c.rules, c.want-1, e)
		}
	}
}

func TestFuelOfImportedGlobals(t *testing.T) { // P15.1: of one name just the one that counts most is done
	for want, rules := range map[int]string{1 + 1 + 1: variable("v", "1"), 1 + 2*(1+1) + 2: variable("w", "1 + 1")} {
		p := load(t, "<x:import href='i'/>"+rules+rule("/", ""), "i", variable("v", "1"))
		a, e := xrun.Run(p, parse(t, "<a/>"), 100)
		if e != api.OK || a.Fuel != want {
			t.Errorf("%s: %+v, %d, want %d", rules, a, e, want)
		}
	}
}

func TestErrorsAheadOfFuel(t *testing.T) { // P15.1: the first error, whichever it is
	x := parse(t, "<a/>")
	for _, c := range []struct {
		fuel  int
		want  api.Errno
		rules string
	}{
		{1, api.ErrFuel, rule("/", value("$none"))},
		{2, api.ErrFuel, rule("/", value("$none"))},
		{3, api.ErrName, rule("/", value("$none"))},
		{1, api.ErrFuel, rule("/", attribute("p", ""))},
		{2, api.ErrBuild, rule("/", attribute("p", ""))},
		{2, api.ErrFuel, rule("/", each("1", ""))},
		{3, api.ErrKind, rule("/", each("1", ""))},
		{1, api.ErrFuel, rule("/", "<x:message terminate='yes'/>")},
		{2, api.ErrStop, rule("/", "<x:message terminate='yes'/>")},
		{0, api.ErrFuel, variable("v", "1")},
		{1, api.ErrFuel, variable("v", "$none")},
		{2, api.ErrName, variable("v", "$none")},
		{1, api.ErrFuel, "<x:variable name='v'>" + attribute("p", "") + "</x:variable>"},
		{2, api.ErrBuild, "<x:variable name='v'>" + attribute("p", "") + "</x:variable>"},
		{1, api.ErrFuel, "<x:variable name='v'><x:message terminate='yes'/></x:variable>"},
		{2, api.ErrStop, "<x:variable name='v'><x:message terminate='yes'/></x:variable>"},
	} {
		if _, e := xrun.Run(load(t, c.rules), x, c.fuel); e != c.want {
			t.Errorf("%s, with %d: %d, want %d", c.rules, c.fuel, e, c.want)
		}
	}
}

func TestStepsOfAnExpression(t *testing.T) { // P15.1: an expression takes at most MaxSteps, however much is left
	// On so many nodes //*//* looks at more than MaxSteps.
	x := parse(t, "<a>"+strings.Repeat("<b/>", 1000)+"</a>")
	many := "count(//*[count(/a/b) &gt; 0])"
	if a, e := xrun.Run(load(t, rule("/", value(many))), x, api.MaxFuel); e != api.ErrFuel {
		t.Error(a, e)
	}
	// Several together may take more.
	some := "<x:if test='count(/a/b[position() &lt;= 30][count(/a/b) &gt; 0])'/>"
	a, e := xrun.Run(load(t, rule("/", strings.Repeat(some, 10))), x, api.MaxFuel)
	if e != api.OK || a.Fuel < 4*api.MaxSteps {
		t.Error(a.Fuel, e)
	}
	if _, e := xrun.Run(load(t, rule("/", strings.Repeat(some, 10))), x, a.Fuel-1); e != api.ErrFuel {
		t.Error(e)
	}
}

func TestAllFuel(t *testing.T) { // E3, P1: what would never end ends
	x := parse(t, "<a>"+strings.Repeat("<b/>", 1000)+"</a>")
	for _, rules := range []string{
		rule("/", each("//b", each("//b", "x"))),
		rule("/", each("//b", each("//b", each("//b", "")))),
		rule("/", each("//b", "<x:variable name='v'>"+each("//b", "<i/>")+"</x:variable>")),
		rule("/", "<x:apply-templates select='//b'/>") + rule("b", "<x:apply-templates select='//b' mode='m'/>"),
		named("n", "<x:param name='k'/><x:if test='$k'><x:call-template name='n'><x:with-param name='k' select='$k - 1'/></x:call-template><x:call-template name='n'><x:with-param name='k' select='$k - 1'/></x:call-template></x:if>") +
			rule("/", "<x:call-template name='n'><x:with-param name='k' select='40'/></x:call-template>"),
		rule("/", each("//b", each("//b", "<x:number format='1'/>"))),
	} {
		if a, e := xrun.Run(load(t, rules), x, api.MaxFuel); e != api.ErrFuel || !reflect.DeepEqual(a, xrun.Answer{}) {
			t.Errorf("%s: %+v, %d", rules, a, e)
		}
	}
}
