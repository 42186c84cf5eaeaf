package xeval_test

import (
	"fmt"
	"reflect"
	"slices"
	"strings"
	"testing"

	"stencil/api"
	"stencil/xdm"
	"stencil/xeval"
	"stencil/xparse"
	"stencil/xvalue"
)

func nodes(l ...int) api.Value { return api.Value{Kind: api.Nodes, Nodes: l} }
func num(n int) api.Value {
	return api.Value{Kind: api.Numbers, Num: api.Num{V: int64(n) * api.Places}}
}
func str(s string) api.Value { return api.Value{Kind: api.Strings, Text: s} }
func truth(b bool) api.Value { return api.Value{Kind: api.Bools, Bool: b} }

// at is a context of one node, with enough steps and some variables.
func at(n int) xeval.Context {
	return xeval.Context{Node: n, Place: 1, Size: 1, Steps: api.MaxSteps,
		Names:  []string{"n", "s", "v", "t", "v", "p:q", "none"},
		Values: []api.Value{num(3), str("x"), nodes(5, 8, 12), truth(true), num(9), str("q"), nodes()}}
}

// told is a value as a text that tells its kind too.
func told(v api.Value) string {
	switch v.Kind {
	case api.Nodes:
		return fmt.Sprint(v.Nodes)
	case api.Strings:
		return fmt.Sprintf("%q", v.Text)
	}
	return xvalue.String(nil, v)
}

func TestMeaning(t *testing.T) { // E2: operators, functions, paths, filters on the nodes that axis_test.go names
	x := parse(t, plain)
	for _, c := range []struct {
		node int
		s    string
		want string
	}{
		// Numbers, strings, truths.
		{0, "1 + 2", "3"}, {0, "1 - 2 - 3", "-4"}, {0, "2 * 3 + 1", "7"}, {0, "7 div 2", "3.5"}, {0, "-7 mod 3", "-1"}, {0, "7 mod -3", "1"}, {0, "- - 1", "1"}, {0, "-'2'", "-2"}, {0, "-a", "NaN"}, {0, "'2' + true()", "3"}, {0, "a/@x + a/@y", "3"}, {0, "1 div 0", "Infinity"}, {0, "-1 div 0", "-Infinity"}, {0, "0 div 0", "NaN"}, {0, "999999999999 * 9", "Infinity"},
		{0, "'a\"b'", `"a\"b"`}, {0, "''", `""`}, {0, "1.50", "1.5"},
		{0, "1 or 0", "true"}, {0, "0 or ''", "false"}, {0, "0 or 'x'", "true"}, {0, "1 and a", "true"}, {0, "1 and zz", "false"}, {0, "'' and 1", "false"}, {0, "1 or $undefined", "true"}, {0, "0 and $undefined", "false"}, {0, "a or $undefined", "true"}, {0, "zz and 1/a", "false"},
		{0, "1 = 1", "true"}, {0, "1 != 1", "false"}, {0, "1 < 2", "true"}, {0, "2 <= 1", "false"}, {0, "2 > 1", "true"}, {0, "1 >= 2", "false"}, {0, "1 = 2 = 0", "true"}, {0, "3 > 2 > 1", "false"}, {0, "a/@* = 2", "true"}, {0, "a/@* != 2", "true"}, {0, "a/@x < a/@y", "true"}, {0, "zz = ''", "false"}, {0, "//text() = 'u'", "true"},
		// Variables: the first one of a name.
		{0, "$n", "3"}, {0, "$s", `"x"`}, {0, "$v", "[5 8 12]"}, {0, "$t", "true"}, {0, "$p:q", `"q"`}, {0, "$none", "[]"}, {0, "$v[2]", "[8]"}, {0, "$v/*", "[8 9]"}, {0, "$v | $none | $v", "[5 8 12]"}, {0, "$n + $t", "4"}, {0, "count($v)", "3"},
		// Functions that need a context.
		{0, "position()", "1"}, {0, "last()", "1"}, {12, "string()", `"u"`}, {5, "string-length()", "1"}, {3, "number()", "1"}, {5, "name()", `"b"`}, {0, "name()", `""`}, {11, "local-name()", `"p"`}, {5, "namespace-uri()", `""`}, {12, "normalize-space()", `"u"`}, {2, "name(*)", `"b"`}, {2, "string(@y)", `"2"`}, {13, "number()", "NaN"},
		{0, "//*[position() = last()]", "[2 8 9 12]"}, {0, "//*[string-length() = 1]", "[5 12]"}, {0, "//*[name() = 'c']", "[8]"}, {0, "//@*[number() > 1]", "[4 6]"}, {0, "//*[string() = 'u']", "[12]"}, {0, "//node()[local-name() = 'p']", "[11]"},
		// Paths.
		{5, "/", "[0]"}, {5, ".", "[5]"}, {5, "..", "[2]"}, {0, "..", "[]"}, {5, "/a", "[2]"}, {0, "a", "[2]"}, {2, "a", "[]"}, {2, "*", "[5 10 12]"}, {2, "node()", "[5 10 11 12]"}, {2, "@*", "[3 4]"}, {2, "@y", "[4]"}, {2, "@node()", "[3 4]"}, {2, "@text()", "[]"}, {2, "@zz", "[]"},
		{0, "//text()", "[7 13]"}, {0, "//comment()", "[1]"}, {0, "//processing-instruction()", "[11 14]"}, {0, "//processing-instruction('r')", "[14]"}, {0, "//processing-instruction('zz')", "[]"}, {0, "processing-instruction('r')", "[14]"}, {0, "//node()", "[1 2 5 7 8 9 10 11 12 13 14]"}, {0, "//@*", "[3 4 6]"},
		{0, "a/b/c/d", "[9]"}, {0, "a/b/c/d/..", "[8]"}, {0, "//d/ancestor::*", "[2 5 8]"}, {0, "//d/ancestor::*[1]", "[8]"}, {0, "//d/ancestor::*[3]", "[2]"}, {0, "//d/ancestor-or-self::node()[2]", "[8]"}, {0, "//d/ancestor::node()[last()]", "[0]"},
		{12, "preceding-sibling::*", "[5 10]"}, {12, "preceding-sibling::*[1]", "[10]"}, {12, "preceding-sibling::node()[1]", "[11]"}, {5, "following-sibling::*[1]", "[10]"}, {5, "following-sibling::*[last()]", "[12]"}, {3, "following-sibling::node()", "[]"}, {3, "preceding-sibling::node()", "[]"},
		{13, "preceding::*[1]", "[10]"}, {13, "preceding::*", "[5 8 9 10]"}, {9, "following::*[2]", "[12]"}, {3, "following::*[1]", "[5]"}, {6, "preceding::node()", "[1]"}, {6, "following::text()", "[7 13]"},
		{3, "self::x", "[]"}, {3, "self::node()", "[3]"}, {3, "self::*", "[]"}, {5, "self::b", "[5]"}, {5, "self::c", "[]"}, {3, "..", "[2]"}, {3, "ancestor::a", "[2]"}, {3, "descendant-or-self::node()", "[3]"}, {3, "parent::*/@y", "[4]"}, {7, "self::text()", "[7]"}, {5, "parent::a", "[2]"}, {5, "parent::b", "[]"},
		{0, "descendant::*", "[2 5 8 9 10 12]"}, {0, "//b/descendant-or-self::*", "[5 8 9]"}, {0, "//*/..", "[0 2 5 8]"}, {0, "(//d | //e)/ancestor::*", "[2 5 8]"}, {0, "//f | //b | //b", "[5 12]"}, {0, "//f/preceding::node() | /", "[0 1 5 7 8 9 10 11]"},
		// Predicates: by a place, or a truth; one behind the other.
		{2, "*[2]", "[10]"}, {2, "*[4]", "[]"}, {2, "*[0]", "[]"}, {2, "*[1.5]", "[]"}, {2, "*[0 div 0]", "[]"}, {2, "*[1 div 0]", "[]"}, {2, "*['2']", "[5 10 12]"}, {2, "*['']", "[]"}, {2, "*[true()]", "[5 10 12]"}, {2, "*[*]", "[5]"}, {2, "*[not(*)]", "[10 12]"}, {2, "*[not(*)][1]", "[10]"}, {2, "*[1][not(*)]", "[]"}, {2, "*[position() > 1][1]", "[10]"}, {2, "*[position() > 1][last()]", "[12]"}, {2, "*[last() - 1]", "[10]"}, {2, "*[2 or 0]", "[5 10 12]"}, {2, "*[@z = 3]", "[5]"}, {2, "*[$n]", "[12]"}, {2, "*[$s]", "[5 10 12]"}, {2, "*[$none]", "[]"}, {2, "*[. = 'u']", "[12]"}, {2, "*[count(*) + 1]", "[]"}, {2, "*[position()]", "[5 10 12]"}, {2, "*[last()]", "[12]"}, {0, "//*[1]", "[2 5 8 9]"}, {0, "(//*)[1]", "[2]"}, {0, "//*[2]", "[10]"}, {0, "/descendant::*[2]", "[5]"},
		// Filters: places are counted in document order, whatever the axis.
		{12, "(preceding-sibling::*)[1]", "[5]"}, {0, "(//d/ancestor::*)[1]", "[2]"}, {0, "(//*)[last()]", "[12]"}, {0, "(//*)[position() > 2][2]", "[9]"}, {0, "$v[. = 'u']", "[12]"}, {0, "($v | /)[1]", "[0]"}, {0, "(//*)[2]/node()[1]", "[7]"}, {5, "(.)[1]", "[5]"}, {0, "(//b)[1]/c", "[8]"},
		{5, "../*[2]", "[10]"}, {0, "a/*[last()]/preceding-sibling::*[1]", "[10]"}, {0, "count(//*[ancestor::a])", "5"}, {0, "sum(//@*)", "6"}, {0, "//*[count(preceding::*) = 3]", "[10]"}, {0, "//*[. = //f]", "[12]"},
	} {
		v, e := xeval.Eval(x, c.s, at(c.node), nil)
		if got := told(v); e != api.OK || got != c.want {
			t.Errorf("%s at %d: %s, %d, want %s", c.s, c.node, got, e, c.want)
		}
	}
}

func TestPlaces(t *testing.T) { // E2: the context's place and size
	x := parse(t, plain)
	where := at(5)
	where.Place, where.Size = 3, 7
	for s, want := range map[string]string{"position()": "3", "last()": "7", "position() * last()": "21", "*[position() = 1]": "[8]", "(*)[last()]": "[8]", "count(*[last() = 1]) + last()": "8", "*[1] = 0 or position() = 3": "true", "concat(count(../*[position() = last()]), position())": `"13"`} {
		if v, e := xeval.Eval(x, s, where, nil); e != api.OK || told(v) != want {
			t.Errorf("%s: %s, %d, want %s", s, told(v), e, want)
		}
	}
	where.Place, where.Size = 1<<62, 1<<63-1
	if v, e := xeval.Eval(x, "position()", where, nil); e != api.OK || told(v) != "Infinity" {
		t.Error(v, e)
	}
}

func TestLang(t *testing.T) { // E2: lang
	x := parse(t, "<a><b xml:lang='en-GB'><c lang='de'>x<d xml:lang=''/><e xml:lang='DE'/></c></b><f xml:lang='k\u212a-A\u00c9'/></a>")
	// root 0, a 1, b 2, its attribute 3, c 4, its attribute 5, a text 6, d 7 (8), e 9 (10), f 11 (12)
	for _, c := range []struct {
		node int
		s    string
		want bool
	}{
		{0, "en", false}, {1, "en", false}, {1, "", false}, {2, "en", true}, {2, "EN", true}, {2, "en-gb", true}, {2, "en-GB-x", false}, {2, "e", false}, {2, "en-", false}, {2, "de", false}, {2, "", false},
		{3, "en", true}, {4, "en", true}, {4, "de", false}, {5, "En", true}, {6, "eN", true}, {7, "en", false}, {7, "", true}, {8, "", true}, {9, "de", true}, {9, "en", false}, {9, "de-AT", false}, {10, "DE", true},
		{11, "k\u212a", true}, {11, "kk", false}, {11, "K\u212a-a\u00c9", true}, {11, "k\u212a-a\u00e9", false},
	} {
		for _, s := range []string{"lang('" + c.s + "')", "lang($l)"} {
			where := xeval.Context{Node: c.node, Place: 1, Size: 1, Steps: 2, Names: []string{"l"}, Values: []api.Value{str(c.s)}}
			if v, e := xeval.Eval(x, s, where, nil); e != api.OK || !reflect.DeepEqual(v, truth(c.want)) {
				t.Errorf("%s of %q at %d: %v, %d", s, c.s, c.node, v, e)
			}
		}
	}
	if v, e := xeval.Eval(x, "lang(//e)", xeval.Context{Node: 2, Place: 1, Size: 1, Steps: 99}, nil); e != api.OK || v.Bool {
		t.Error(v, e)
	}
	if v, e := xeval.Eval(x, "//*[lang('en')]", xeval.Context{Place: 1, Size: 1, Steps: 99}, nil); e != api.OK || told(v) != "[2 4]" {
		t.Error(v, e)
	}
}

func TestRunFaults(t *testing.T) { // P8.1: errors of a run, in the order in which they are asked for
	x := parse(t, plain)
	for s, want := range map[string]api.Errno{
		"$undefined": api.ErrName, "$p:undefined": api.ErrName, "1 + $undefined": api.ErrName, "$q": api.ErrName,
		"1 | a": api.ErrKind, "a | 1": api.ErrKind, "'x' | 'x'": api.ErrKind, "$v | $n": api.ErrKind, "$s/a": api.ErrKind, "1/a": api.ErrKind, "(1 + 1)/a": api.ErrKind, "true()//a": api.ErrKind, "1[1]": api.ErrKind, "$n[1]": api.ErrKind, "'x'[$undefined]": api.ErrKind, "(a = b)[1]/c": api.ErrKind,
		"count(1)": api.ErrKind, "sum('1')": api.ErrKind, "name(1)": api.ErrKind, "local-name(true())": api.ErrKind, "namespace-uri('x')": api.ErrKind, "format-number(1, '')": api.ErrMark,
		// Both sides are asked for ahead of what is done with them.
		"1 | $undefined": api.ErrName, "$undefined | 1": api.ErrName, "count(1) | $undefined": api.ErrKind, "$undefined | count(1)": api.ErrName, "count(1) + $undefined": api.ErrKind, "concat(1, count(1), $undefined)": api.ErrKind, "concat($undefined, count(1))": api.ErrName, "1/a[$undefined]": api.ErrKind, "format-number($undefined, '')": api.ErrName,
		// What is not asked for has no error.
		"zz[$undefined]": api.OK, "zz/a[1 | 2]": api.OK, "true() or $undefined": api.OK, "false() and 1/a": api.OK, "false() or $undefined": api.ErrName, "true() and 1/a": api.ErrKind, "a[false()][$undefined]": api.OK, "a[true()][$undefined]": api.ErrName, "a[$undefined][1/a]": api.ErrName, "a[1/a][$undefined]": api.ErrKind, "a/b/zz[$undefined]": api.OK, "//b[count(.)]/c[sum(1)]": api.ErrKind,
	} {
		v, e := xeval.Eval(x, s, at(0), nil)
		if e != want || want != api.OK && !reflect.DeepEqual(v, api.Value{}) {
			t.Errorf("%s: %v, %d, want %d", s, v, e, want)
		}
		c, fault := xeval.Compile(expression(t, s), known)
		if fault != api.OK {
			continue
		}
		if v, steps, e := c.Run(x, at(0)); e != want || want != api.OK && (!reflect.DeepEqual(v, api.Value{}) || steps != 0) || want == api.OK && steps == 0 {
			t.Errorf("%s: %v, %d, %d, want %d", s, v, steps, e, want)
		}
	}
}

func TestTextsPastTheLimit(t *testing.T) { // P8.1: xvalue.Call's ErrLimit, also of the context's node
	for length, want := range map[int]api.Errno{api.MaxText: api.OK, api.MaxText + 1: api.ErrLimit} {
		x, e := xdm.Build(api.Token{Kind: api.Element, Name: "a"}, api.Token{Kind: api.Text, Text: strings.Repeat("x", length)}, api.Token{Kind: api.End, Name: "a"})
		if e != api.OK {
			t.Fatal(e)
		}
		for _, s := range []string{"string()", "string(.)", "normalize-space()"} {
			if _, e := xeval.Eval(x, s, xeval.Context{Place: 1, Size: 1, Steps: 9}, nil); e != want {
				t.Errorf("%s of %d bytes: %d, want %d", s, length, e, want)
			}
		}
		if v, e := xeval.Eval(x, "string-length()", xeval.Context{Place: 1, Size: 1, Steps: 9}, nil); e != api.OK || told(v) != fmt.Sprint(length) {
			t.Error(v, e)
		}
	}
}

func TestNil(t *testing.T) { // P1, P8.1: ErrNil, if c or t is nil, ahead of ErrRange
	x := parse(t, plain)
	c := compile(t, "1", nil)
	var none *xeval.Code
	for _, where := range []xeval.Context{at(0), {}, {Node: -1}} {
		for _, run := range []func() (api.Value, int, api.Errno){
			func() (api.Value, int, api.Errno) { return none.Run(x, where) },
			func() (api.Value, int, api.Errno) { return none.Run(nil, where) },
			func() (api.Value, int, api.Errno) { return c.Run(nil, where) },
			func() (api.Value, int, api.Errno) { return new(xeval.Code).Run(x, where) },
		} {
			if v, steps, e := run(); e != api.ErrNil || steps != 0 || !reflect.DeepEqual(v, api.Value{}) {
				t.Error(v, steps, e)
			}
		}
	}
}

func TestEvalFaults(t *testing.T) { // P8.1: Parse's errors, then Compile's, then Run's
	x := parse(t, plain)
	for _, c := range []struct {
		s    string
		t    *xdm.Tree
		at   xeval.Context
		want api.Errno
	}{
		{"1 +", x, at(0), api.ErrWord}, {"1 +", nil, xeval.Context{}, api.ErrWord}, {"o:f(", nil, xeval.Context{}, api.ErrWord}, {"", x, at(0), api.ErrWord}, {"\xff", x, at(0), api.ErrWord}, {strings.Repeat(" ", api.MaxExpr) + "1", nil, xeval.Context{}, api.ErrLimit},
		{"o:f()", nil, xeval.Context{}, api.ErrPrefix}, {"f()", nil, xeval.Context{}, api.ErrName}, {"not()", x, xeval.Context{}, api.ErrCount},
		{"1", nil, xeval.Context{}, api.ErrNil}, {"1", nil, at(0), api.ErrNil}, {"1", x, xeval.Context{}, api.ErrRange}, {"1/a", x, xeval.Context{}, api.ErrRange}, {"1/a", x, at(0), api.ErrKind}, {"1", x, xeval.Context{Place: 1, Size: 1}, api.ErrFuel},
	} {
		_, parsed := xparse.Parse(c.s)
		v, e := xeval.Eval(c.t, c.s, c.at, nil)
		if e != c.want && e != parsed || parsed != api.OK && e != parsed || !reflect.DeepEqual(v, api.Value{}) {
			t.Errorf("%q: %v, %d, want %d", c.s, v, e, c.want)
		}
	}
}

func TestContexts(t *testing.T) { // P8.1: ErrRange
	x := parse(t, plain)
	c := compile(t, "1", nil)
	good := at(3)
	change := func(by func(*xeval.Context)) xeval.Context {
		other := good
		other.Names, other.Values = slices.Clone(good.Names), slices.Clone(good.Values)
		by(&other)
		return other
	}
	value := func(v api.Value) xeval.Context {
		return change(func(a *xeval.Context) { a.Values[2] = v })
	}
	for i, where := range []xeval.Context{
		good, change(func(a *xeval.Context) { a.Node = 0 }), change(func(a *xeval.Context) { a.Node = 14 }), change(func(a *xeval.Context) { a.Size = 1 << 62 }), change(func(a *xeval.Context) { a.Place, a.Size = 5, 5 }), change(func(a *xeval.Context) { a.Steps = 1 }), change(func(a *xeval.Context) { a.Steps = 1 << 62 }),
		change(func(a *xeval.Context) { a.Names, a.Values = nil, nil }), change(func(a *xeval.Context) { a.Names, a.Values = []string{}, nil }), change(func(a *xeval.Context) { a.Names[0] = "\xff" }),
		value(nodes()), value(nodes(0)), value(nodes(0, 3, 14)), value(num(0)), value(api.Value{Kind: api.Numbers, Num: api.Num{V: api.MaxNum}}), value(api.Value{Kind: api.Numbers, Num: api.Num{Kind: api.NaN}}), value(str("")), value(str("\xff")), value(str(strings.Repeat("x", 40000))), value(truth(false)), value(api.Value{Kind: api.Bools, Nodes: []int{}}),
	} {
		if v, steps, e := c.Run(x, where); e != api.OK || steps != 1 || !reflect.DeepEqual(v, num(1)) {
			t.Error(i, v, steps, e)
		}
	}
	for i, where := range []xeval.Context{
		{}, change(func(a *xeval.Context) { a.Node = -1 }), change(func(a *xeval.Context) { a.Node = 15 }), change(func(a *xeval.Context) { a.Node = -1 << 63 }), change(func(a *xeval.Context) { a.Node = 1<<63 - 1 }),
		change(func(a *xeval.Context) { a.Place = 0 }), change(func(a *xeval.Context) { a.Place = 2 }), change(func(a *xeval.Context) { a.Place = -1 }), change(func(a *xeval.Context) { a.Size = 0 }), change(func(a *xeval.Context) { a.Place, a.Size = 0, 0 }), change(func(a *xeval.Context) { a.Place, a.Size = -2, -1 }),
		change(func(a *xeval.Context) { a.Steps = -1 }), change(func(a *xeval.Context) { a.Steps = -1 << 63 }),
		change(func(a *xeval.Context) { a.Names = a.Names[1:] }), change(func(a *xeval.Context) { a.Values = a.Values[1:] }), change(func(a *xeval.Context) { a.Names = nil }), change(func(a *xeval.Context) { a.Values = nil }),
		value(nodes(-1)), value(nodes(15)), value(nodes(3, 3)), value(nodes(3, 2)), value(nodes(2, 3, 15)), value(nodes(-1, 2)), value(api.Value{Nodes: []int{2}, Text: "x"}), value(api.Value{Bool: true}), value(api.Value{Num: api.Num{V: 1}}), value(api.Value{Num: api.Num{Kind: api.NaN}}),
		value(api.Value{Kind: api.Numbers, Nodes: []int{1}}), value(api.Value{Kind: api.Numbers, Text: "1"}), value(api.Value{Kind: api.Numbers, Bool: true}), value(api.Value{Kind: api.Numbers, Num: api.Num{V: api.MaxNum + 1}}), value(api.Value{Kind: api.Numbers, Num: api.Num{Kind: api.NaN, V: 1}}), value(api.Value{Kind: api.Numbers, Num: api.Num{Kind: 9}}),
		value(api.Value{Kind: api.Strings, Nodes: []int{1}}), value(api.Value{Kind: api.Strings, Bool: true}), value(api.Value{Kind: api.Strings, Num: api.Num{V: 1}}),
		value(api.Value{Kind: api.Bools, Nodes: []int{1}}), value(api.Value{Kind: api.Bools, Text: "x"}), value(api.Value{Kind: api.Bools, Num: api.Num{V: 1}}), value(api.Value{Kind: -1}), value(api.Value{Kind: 4}),
	} {
		if v, steps, e := c.Run(x, where); e != api.ErrRange || steps != 0 || !reflect.DeepEqual(v, api.Value{}) {
			t.Error(i, v, steps, e)
		}
	}
}

func TestSteps(t *testing.T) { // P8.1, P8.4 (E3): the count of steps, by hand
	x := parse(t, plain)
	for _, c := range []struct {
		node int
		s    string
		want int
	}{
		{0, "1", 1}, {0, "'x'", 1}, {0, "$v", 1}, {0, "true()", 1}, {0, "position()", 1}, {0, "string()", 1}, {0, "-1", 2}, {0, "1 + 2", 3}, {0, "1 + 2 * 3", 5}, {0, "concat(1, 2, 3)", 4}, {0, "lang('x')", 2}, {0, "not(true())", 2},
		// The other side of Or and And is one just if it is asked for.
		{0, "1 or 2", 2}, {0, "0 or 2", 3}, {0, "0 and 2", 2}, {0, "1 and 2", 3}, {0, "1 or 2 + 3", 2}, {0, "0 or 2 + 3", 5},
		// A Path is one, what it begins with none, but if it is another expression; each node on an axis is one, taken or not.
		{0, "/", 1}, {5, ".", 2}, {0, "..", 1}, {5, "..", 2}, {0, "a", 4}, {0, "zz", 4}, {2, "*", 5}, {2, "@x", 3}, {2, "text()", 5}, {0, "/a", 4}, {0, "a/b", 8}, {0, "a/*", 8}, {0, "zz/b", 4}, {0, "$v/*", 2 + 2 + 1 + 1}, {0, "descendant::zz", 12}, {0, "//zz", 1 + 12 + 3 + 4 + 2 + 1 + 1}, {13, "ancestor::zz", 4}, {13, "preceding::zz", 8}, {0, "a | a", 9},
		// A predicate is asked for at each node that is left.
		{2, "*[1]", 5 + 3}, {2, "b[1]", 5 + 1}, {2, "zz[1]", 5}, {2, "*[1][1]", 5 + 3 + 1}, {2, "*[true()][1]", 5 + 3 + 3}, {2, "*[false()][1]", 5 + 3}, {2, "*[position() = 1]", 5 + 9}, {2, "*[*]", 5 + 3 + 2 + 1}, {2, "*[*[1]]", 5 + 3 + 2 + 1 + 1}, {2, "b[1]/c[1]", 5 + 1 + 2 + 1},
		{2, "(*)[1]", 1 + 5 + 3}, {0, "$v[1]", 2 + 3}, {0, "$v[1][1]", 2 + 3 + 1}, {0, "$v[1]/c", 3 + 3 + 2}, {0, "count(a)", 5}, {2, "*[last()]", 5 + 3},
	} {
		code := compile(t, c.s, nil)
		want, steps, e := code.Run(x, at(c.node))
		if e != api.OK || steps != c.want {
			t.Errorf("%s at %d: %d steps, %d, want %d", c.s, c.node, steps, e, c.want)
			continue
		}
		for limit := 0; limit < c.want+3; limit++ {
			where := at(c.node)
			where.Steps = limit
			v, steps, e := code.Run(x, where)
			if limit < c.want && (e != api.ErrFuel || steps != 0 || !reflect.DeepEqual(v, api.Value{})) || limit >= c.want && (e != api.OK || steps != c.want || !reflect.DeepEqual(v, want)) {
				t.Errorf("%s of %d steps: %v, %d, %d", c.s, limit, v, steps, e)
			}
		}
	}
}

func TestFuelAheadOfFaults(t *testing.T) { // P8.1: what comes first, by the order in which it is asked for
	x := parse(t, plain)
	for _, c := range []struct {
		s     string
		steps int // at which the error comes up
		want  api.Errno
	}{
		{"$undefined", 1, api.ErrName}, {"1 + $undefined", 3, api.ErrName}, {"$undefined + 1", 2, api.ErrName}, {"1 | 2", 3, api.ErrKind}, {"1/a", 2, api.ErrKind}, {"1/a[1]", 2, api.ErrKind}, {"1[2]", 2, api.ErrKind}, {"count(1)", 2, api.ErrKind}, {"0 or $undefined", 3, api.ErrName},
		{"node()[$undefined]", 5, api.ErrName}, {"node()[1][$undefined]", 4 + 3 + 1, api.ErrName}, {"a/*[$undefined]", 4 + 4 + 1, api.ErrName}, {"$v[$undefined]", 3, api.ErrName}, {"$v/node()[1/a]", 2 + 2 + 2, api.ErrKind},
	} {
		code := compile(t, c.s, nil)
		for limit := 0; limit < c.steps+3; limit++ {
			where := at(0)
			where.Steps = limit
			want := c.want
			if limit < c.steps {
				want = api.ErrFuel
			}
			if v, steps, e := code.Run(x, where); e != want || steps != 0 || !reflect.DeepEqual(v, api.Value{}) {
				t.Errorf("%s of %d steps: %v, %d, %d, want %d", c.s, limit, v, steps, e, want)
			}
		}
	}
}

func TestMaxSteps(t *testing.T) { // P8.1: MaxSteps are not too many, one more is, whatever Steps says
	const predicates, size = 31, 2114 // a Filter of a variable takes 2 and predicates * size steps
	tokens := []api.Token{{Kind: api.Element, Name: "r"}}
	for len(tokens) < size-1 {
		tokens = append(tokens, api.Token{Kind: api.Comment})
	}
	x, e := xdm.Build(append(tokens, api.Token{Kind: api.End, Name: "r"})...)
	if e != api.OK || x.Len() != size || 2+predicates*size != api.MaxSteps {
		t.Fatal(e, x.Len())
	}
	filter := "$v" + strings.Repeat("[true()]", predicates)
	where := xeval.Context{Place: 1, Size: 1, Names: []string{"v"}, Values: []api.Value{nodes(xeval.Axis(x, 0, api.DescendantOrSelf)...)}}
	for _, steps := range []int{api.MaxSteps, api.MaxSteps + 1, 1 << 62} {
		where.Steps = steps
		if v, taken, e := compile(t, filter, nil).Run(x, where); e != api.OK || taken != api.MaxSteps || len(v.Nodes) != size {
			t.Error(steps, taken, e)
		}
		if v, taken, e := compile(t, "-"+filter, nil).Run(x, where); e != api.ErrFuel || taken != 0 || !reflect.DeepEqual(v, api.Value{}) {
			t.Error(steps, taken, e)
		}
	}
	where.Steps = api.MaxSteps - 1
	if _, _, e := compile(t, filter, nil).Run(x, where); e != api.ErrFuel {
		t.Error(e)
	}
}

func TestValuesStay(t *testing.T) { // P3: no list of an answer lies in one that was handed in, nor is one of these changed
	x := parse(t, plain)
	where := at(0)
	list := append(make([]int, 0, 8), 5, 8, 12)
	where.Values[2] = nodes(list...)
	room := slices.Clone(list[:8])
	for _, s := range []string{"$v", "$v[true()]", "$v | $v", "$v | $none", "$none | $v", "$v/.", "($v)[1]", "$none", "$v[. = 'u']", "//*[. = $v]"} {
		code := compile(t, s, nil)
		v, _, e := code.Run(x, where)
		want := slices.Clone(v.Nodes)
		if e != api.OK {
			t.Fatal(s, e)
		}
		for i := range v.Nodes[:cap(v.Nodes)] {
			v.Nodes[:cap(v.Nodes)][i] = 99
		}
		again, _, e := code.Run(x, where)
		if e != api.OK || !slices.Equal(again.Nodes, want) || !slices.Equal(list[:8], room) {
			t.Errorf("%s: %v, want %v; %v", s, again.Nodes, want, list[:8])
		}
	}
}

func TestExamples(t *testing.T) { // the chapter's examples
	x := parse(t, "<a><b/><b/></a>")
	for s, want := range map[string]string{"count(a/b)": "2", "a/b[2]": "[3]", "a/b[last()]/preceding-sibling::*": "[2]"} {
		if v, e := xeval.Eval(x, s, xeval.Context{Place: 1, Size: 1, Steps: 100}, nil); e != api.OK || told(v) != want {
			t.Error(s, told(v), e)
		}
	}
}
