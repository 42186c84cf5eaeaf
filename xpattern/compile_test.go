package xpattern_test

import (
	"fmt"
	"strings"
	"testing"

	"stencil/api"
	"stencil/xpattern"
)

// known is a scope in which p and q stand for something, and n for nothing; the first of a name counts.
var known = []api.Pair{{Name: "p", Value: "u"}, {Name: "n", Value: ""}, {Name: "q", Value: "v"}, {Name: "p", Value: "w"}}

func compile(t testing.TB, s string) *xpattern.Pattern {
	t.Helper()
	p, fault := xpattern.Compile(s, known)
	if fault != api.OK || p == nil {
		t.Fatal(s, p, fault)
	}
	return p
}

const half, quarter = api.Places / 2, api.Places / 4

func TestPriorities(t *testing.T) { // P9.1: Len and Priority; the paths from the left
	for s, want := range map[string][]int64{
		"a": {0}, "p:a": {0}, "@a": {0}, "@p:a": {0}, "child::a": {0}, "attribute::q:a": {0}, "(a)": {0}, "((@a))": {0}, " a ": {0}, "xml:a": {0},
		"p:*": {-quarter}, "@p:*": {-quarter}, "child::q:*": {-quarter}, "@xml:*": {-quarter},
		"*": {-half}, "@*": {-half}, "node()": {-half}, "text()": {-half}, "comment()": {-half}, "processing-instruction()": {-half}, "@node()": {-half}, "@text()": {-half}, "attribute::comment()": {-half},
		"processing-instruction('a')": {0}, "processing-instruction(\"a b\")": {0}, "@processing-instruction('a')": {0}, "processing-instruction('')": {-half},
		"/": {half}, "/a": {half}, "//a": {half}, "/*": {half}, "/@a": {half}, "//node()": {half}, "//@*": {half}, "/p:*": {half}, "/processing-instruction('a')": {half},
		"a/b": {half}, "a//b": {half}, "*/*": {half}, "a/@b": {half}, "@a/b": {half}, "@*/@*": {half}, "a/node()": {half}, "//a//b": {half},
		"a[1]": {half}, "*[1]": {half}, "@a[1]": {half}, "p:*[1]": {half}, "node()[. = 1]": {half}, "a[1][2]": {half}, "processing-instruction('a')[1]": {half}, "a[b]/c": {half}, "a/b[c]": {half}, "/a[//b]": {half}, "text()[not(.)]": {half},
		"a/b|@c": {half, 0}, "a|b|c": {0, 0, 0}, "a|*|p:*|a/b|/": {0, -half, -quarter, half, half}, "/|a": {half, 0}, "a|/": {0, half}, "a|a": {0, 0}, "@*|node()": {-half, -half},
		// ( ) leave no trace but the order, which is from the left.
		"a|(*|p:*)": {0, -half, -quarter}, "(a|*)|p:*": {0, -half, -quarter}, "(a|*)|(p:*|/)": {0, -half, -quarter, half}, "((a))|((/))": {0, half}, "a|(*|(p:*|(/|@a)))": {0, -half, -quarter, half, 0},
	} {
		p := compile(t, s)
		var got []int64
		for i := range p.Len() {
			x := p.Priority(i)
			if x.Kind != api.Fin {
				t.Error(s, i, x)
			}
			got = append(got, x.V)
		}
		if fmt.Sprint(got) != fmt.Sprint(want) {
			t.Errorf("%s: %v, want %v", s, got, want)
		}
		for _, i := range []int{-1, -1 << 62, p.Len(), p.Len() + 1, 1 << 62} {
			if x := p.Priority(i); x != (api.Num{}) {
				t.Error(s, i, x)
			}
		}
	}
}

func TestNoPatterns(t *testing.T) { // P9.1: ErrWord of what is an expression, but no pattern
	for _, s := range []string{
		"1", "'a'", "$v", "-a", "- -1", "a + b", "a = b", "a or b", "a and b", "a * b", "a mod b", "a < b", "not(a)", "true()", "last()", "id('a')", "key('a', 'b')", "current()",
		".", "..", "a/.", "./a", "a/..", "../a", "a/./b", "/.", "/..", "//.", "//..", "a//.",
		"self::a", "parent::a", "descendant::a", "ancestor::a", "ancestor-or-self::a", "following::a", "preceding::a", "following-sibling::a", "preceding-sibling::a", "descendant-or-self::a",
		"/self::a", "/descendant::a", "a/descendant::b", "a/self::*/b", "a/following-sibling::b", "//ancestor::a", "descendant::a/b", "/descendant-or-self::a", "/descendant-or-self::a/b", "a/descendant-or-self::a/b", "a/descendant-or-self::*/b", "a/descendant-or-self::text()/b",
		// Where // may not stand, and what is not //.
		"descendant-or-self::node()", "/descendant-or-self::node()", "a/descendant-or-self::node()", "a//descendant-or-self::node()", "//descendant-or-self::node()", "descendant-or-self::node()/a", "descendant-or-self::node()//a",
		"/descendant-or-self::node()[1]/a", "a/descendant-or-self::node()[1]/b", "a/descendant-or-self::node()[a]/b", "a/descendant-or-self::node()[true()]/b",
		"(a)/b", "(a)//b", "(a)[1]", "(a|b)[1]", "(a|b)/c", "(/)/a", "(/)[1]", "$v/a", "$v[1]", "$v|a", "f()/a", "id('a')/b", "'a'/b", "(a/b)/c", "(//a)[1]",
		"a|1", "1|a", "a|.", ".|a", "a|b|..", "a|(b|.)", "(a|.)|b", "..|..", "a|-b", "a|(b = c)", "a|b[1]|(c)[1]", "a|descendant::b", "/|self::a", "a|(b)/c",
	} {
		if p, fault := xpattern.Compile(s, known); p != nil || fault != api.ErrWord {
			t.Errorf("%s: %v, %d", s, p, fault)
		}
	}
	// With it all a path may have.
	for _, s := range []string{
		"/", "a", "/a", "//a", "a//b", "a//b//c", "//a//b", "a/b//c/d", "//@a", "a//@b", "@a//b", "@a/@b", "a//text()", "/descendant-or-self::node()/a", "a/descendant-or-self::node()/b", "a/descendant-or-self::node()//b", "/descendant-or-self::node()//b",
		"a[1]", "a[self::b]", "a[..]", "a[.]", "a[(b)[1]]", "a[$v]/b", "a[ancestor::b or following::*]//c[position() = last()]", "a[b|c]|d[not(e)]", "a[descendant-or-self::node()]", "@*[. = 1]", "node()[self::a][1]", "/a[1]/b[2]//c[3]",
	} {
		compile(t, s)
	}
}

func TestCompileFaults(t *testing.T) { // P9.1: the errors, and which is the first
	long := strings.Repeat(" ", api.MaxExpr)
	for s, want := range map[string]api.Errno{
		// xparse.Parse's
		"": api.ErrWord, " ": api.ErrWord, "a b": api.ErrWord, "a|": api.ErrWord, "|a": api.ErrWord, "a||b": api.ErrWord, "a/": api.ErrWord, "//": api.ErrWord, "a[": api.ErrWord, "a[]": api.ErrWord, "@": api.ErrWord, "a::b": api.ErrWord, "a:b:c": api.ErrWord, "!": api.ErrWord, "a///b": api.ErrWord, "@@a": api.ErrWord,
		"a\x00": api.ErrChar, "\xff": api.ErrChar, "a[.='\ufffe']": api.ErrChar, "a" + long: api.ErrLimit, long: api.ErrWord, "." + long: api.ErrLimit, long[1:] + "a": api.OK,
		strings.Repeat("(", api.MaxDeep+1) + "a" + strings.Repeat(")", api.MaxDeep+1): api.ErrLimit,
		strings.Repeat("(", api.MaxDeep) + "a" + strings.Repeat(")", api.MaxDeep):     api.OK,
		strings.Repeat("-", api.MaxDeep) + "a":                                        api.ErrLimit,
		// ErrWord ahead of what xeval.Compile finds, wherever that stands
		"o:a": api.ErrPrefix, "o:a|.": api.ErrWord, ".|o:a": api.ErrWord, "o:a/..": api.ErrWord, "f()": api.ErrWord, "o:f()": api.ErrWord, "a[f()]|..": api.ErrWord, "not()": api.ErrWord,
		// xeval.Compile's
		"n:a": api.ErrPrefix, "@o:a": api.ErrPrefix, "o:*": api.ErrPrefix, "a/o:b": api.ErrPrefix, "//o:a": api.ErrPrefix, "a[o:b]": api.ErrPrefix, "a[f()]": api.ErrName, "a[p:f()]": api.ErrName, "a[o:f()]": api.ErrPrefix, "a[not()]": api.ErrCount, "a[last(1)]": api.ErrCount, "a[key('a', 'b')]": api.ErrName, "a[current()]": api.ErrName, "xmlns:a": api.ErrPrefix,
		"a[f()]/o:b": api.ErrName, "o:a[f()]": api.ErrPrefix,
		// of the first path that has one
		"a|o:b": api.ErrPrefix, "a[f()]|o:b": api.ErrName, "o:b|a[f()]": api.ErrPrefix, "a|b[not()]|o:c|a[f()]": api.ErrCount, "a|(b[not()]|o:c)": api.ErrCount, "(a|b[f()])|(c[not()]|o:c)": api.ErrName, "a|(o:b|c[f()])|d[not()]": api.ErrPrefix,
		// What is known just at a run is no error here.
		"a[$v]": api.OK, "a[$o:v]": api.OK, "a[count(1)]": api.OK, "a[1|2]": api.OK, "a['x'/b]": api.OK,
	} {
		p, fault := xpattern.Compile(s, known)
		if fault != want || (p != nil) != (want == api.OK) {
			t.Errorf("%.60q: %v, %d, want %d", s, p, fault, want)
		}
	}
	for _, scope := range [][]api.Pair{nil, {}, {{}}, {{Name: "p"}}, {{Value: "u"}}, {{Name: "\xff", Value: "\xff"}}} {
		if p, fault := xpattern.Compile("p:a", scope); p != nil || fault != api.ErrPrefix {
			t.Error(scope, p, fault)
		}
		if p, fault := xpattern.Compile("a|xml:a", scope); p.Len() != 2 || fault != api.OK {
			t.Error(scope, p, fault)
		}
	}
}

func TestManyPaths(t *testing.T) { // P9.1: as many as an expression can have
	// A union goes to the left, each one deeper; the steps lie deeper still.
	if p := compile(t, strings.Repeat("a|", api.MaxDeep-1)+"a"); p.Len() != api.MaxDeep {
		t.Error(p.Len())
	}
	if p, fault := xpattern.Compile(strings.Repeat("a|", api.MaxDeep)+"a", nil); p != nil || fault != api.ErrLimit {
		t.Error(p, fault)
	}
	// In ( ) there may be more of them.
	eight := "(" + strings.Repeat("a|", 7) + "*)"
	p := compile(t, strings.Repeat(eight+"|", 7)+eight)
	if p.Len() != 64 {
		t.Error(p.Len())
	}
	for i := range 64 {
		if want := int64(0); i%8 == 7 && p.Priority(i).V != -half || i%8 < 7 && p.Priority(i).V != want {
			t.Error(i, p.Priority(i))
		}
	}
	x := parse(t, "<a/>")
	if got := p.Which(x, 1, nil, nil); len(got) != 64 || got[0] != 0 || got[63] != 63 {
		t.Error(got)
	}
}
