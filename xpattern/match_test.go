package xpattern_test

import (
	"fmt"
	"reflect"
	"strings"
	"testing"

	"stencil/api"
	"stencil/xdm"
	"stencil/xpattern"
)

func parse(t testing.TB, s string) *xdm.Tree {
	t.Helper()
	x, fault := xdm.Parse(s)
	if fault != api.OK {
		t.Fatal(s, fault)
	}
	return x
}

// matched are the nodes that a pattern matches; what Which tells is held against Matches.
func matched(t testing.TB, p *xpattern.Pattern, x *xdm.Tree, names []string, values []api.Value) string {
	t.Helper()
	var l []int
	for n := range x.Len() {
		which := p.Which(x, n, names, values)
		for i, k := range which {
			if k < 0 || k >= p.Len() || i > 0 && which[i-1] >= k {
				t.Error("not rising numbers of paths", which)
			}
		}
		if p.Matches(x, n, names, values) != (len(which) > 0) {
			t.Error("Matches tells something else than Which", n, which)
		}
		if len(which) > 0 {
			l = append(l, n)
		}
	}
	return strings.Trim(fmt.Sprint(l), "[]")
}

const sample = "<?i j?><a xmlns:p='u' xml:lang='en' k='1'>t<b k='2' p:k='3'><c/>s<!--d--></b><?i?><p:b><c k='4'><c/></c></p:b><b/></a><!--e-->"

// sample's nodes: root 0, i 1, a 2, xml:lang 3, k 4, t 5, b 6, k 7, p:k 8, c 9, s 10, d 11, i 12, p:b 13, c 14, k 15, c 16, b 17, e 18

func TestMatches(t *testing.T) { // P9.1: which nodes a pattern matches
	x := parse(t, sample)
	for s, want := range map[string]string{
		"/": "0", "a": "2", "b": "6 17", "c": "9 14 16", "p:b": "13", "p:*": "13", "*": "2 6 9 13 14 16 17", "q:*": "", "d": "", "xml:*": "",
		"@k": "4 7 15", "@p:k": "8", "@p:*": "8", "@xml:lang": "3", "@xml:*": "3", "@*": "3 4 7 8 15", "@node()": "3 4 7 8 15", "@text()": "", "@c": "", "@comment()": "",
		"node()": "1 2 5 6 9 10 11 12 13 14 16 17 18", "text()": "5 10", "comment()": "11 18", "processing-instruction()": "1 12", "processing-instruction('i')": "1 12", "processing-instruction('j')": "",
		"/a": "2", "/b": "", "/node()": "1 2 18", "/@k": "", "/comment()": "18", "/a/b": "6 17", "/a/c": "", "/*/*/*": "9 14",
		"//c": "9 14 16", "//a": "2", "//@k": "4 7 15", "//node()": "1 2 5 6 9 10 11 12 13 14 16 17 18", "//text()": "5 10", "//a//c": "9 14 16", "//b//c": "9", "//b/@*": "7 8",
		"a/b": "6 17", "b/c": "9", "p:b/c": "14", "c/c": "16", "a/c": "", "*/c": "9 14 16", "a/*/c": "9 14", "*/*/c": "9 14 16", "*/*/*/c": "16", "*/*/*/*/c": "", "a/@k": "4", "*/@k": "4 7 15", "a/*/@k": "7", "@k/c": "", "@*/@*": "", "@k/node()": "", "a/text()": "5", "b/comment()": "11", "a/processing-instruction()": "12",
		"a//c": "9 14 16", "b//c": "9", "p:b//c": "14 16", "c//c": "16", "a//b": "6 17", "a//a": "", "a//@k": "4 7 15", "b//@k": "7", "c//@k": "15", "*//c": "9 14 16", "a//*//c": "9 14 16", "*//*//*//c": "16", "a//c//c": "16", "a//*/c": "9 14 16", "*//text()": "5 10", "p:b//node()": "14 16", "@k//c": "",
		"a/descendant-or-self::node()//c": "9 14 16", "/descendant-or-self::node()/descendant-or-self::node()/c": "9 14 16",
		// Places are counted among what the node's parent has.
		"b[1]": "6", "b[2]": "17", "b[last()]": "17", "*[1]": "2 6 9 14 16", "*[2]": "13", "*[3]": "17", "c[1]": "9 14 16", "c[2]": "", "node()[1]": "1 5 9 14 16", "node()[last()]": "11 14 16 17 18", "@*[1]": "3 7 15", "@*[2]": "4 8", "@k[1]": "4 7 15", "a/*[2]/c": "14", "//c[1]": "9 14 16", "*[position() = 1][last() = 1]": "2 6 9 14 16", "*[2][1]": "13", "*[1][2]": "",
		"b[c]": "6", "b[not(c)]": "17", "*[@k]": "2 6 14", "*[@k = 2]": "6", "*[@k]/c": "9 16", "c[..]": "9 14 16", "c[../@k]": "9 16", "c[ancestor::p:b]": "14 16", "c[following::b]": "9 14 16", "*[. = 's']": "6", "a[.//c]": "2", "a[/a]": "2", "a[/b]": "", "*[lang('en')]": "2 6 9 13 14 16 17", "node()[name() = 'i']": "1 12", "*[self::c or self::b]": "6 9 14 16 17", "c[count(//c) = 3]": "9 14 16", "a[string-length() = 2]/b": "6 17",
		"a[false()]": "", "a[0]": "", "a['']": "", "a['x']": "2", "a[true()]/b[false()]": "",
		"a|b": "2 6 17", "/|@p:k|comment()": "0 8 11 18", "a/b|c//c|/": "0 6 16 17", "@*|node()": "1 2 3 4 5 6 7 8 9 10 11 12 13 14 15 16 17 18", "a|a": "2", "d|e": "", "d|(e|c/c)": "16",
	} {
		if got := matched(t, compile(t, s), x, nil, nil); got != want {
			t.Errorf("%s: %s, want %s", s, got, want)
		}
	}
}

func TestWhich(t *testing.T) { // P9.1: path by path
	x := parse(t, sample)
	for s, all := range map[string]map[int]string{
		"a/b|@k":              {0: "", 2: "", 4: "1", 6: "0", 7: "1", 17: "0"},
		"a|*|node()|/|//*":    {0: "3", 1: "2", 2: "0 1 2 4", 3: "", 5: "2", 9: "1 2 4", 18: "2"},
		"c|c|(b|c)":           {9: "0 1 3", 6: "2", 2: ""},
		"c/c|p:b/c|p:b//c|/c": {9: "", 14: "1 2", 16: "0 2"},
		"*[1]|*[2]|*[3]":      {2: "0", 6: "0", 13: "1", 17: "2", 16: "0"},
	} {
		p := compile(t, s)
		for n, want := range all {
			if got := strings.Trim(fmt.Sprint(p.Which(x, n, nil, nil)), "[]"); got != want {
				t.Errorf("%s at %d: %s, want %s", s, n, got, want)
			}
		}
	}
}

func TestVariables(t *testing.T) { // P9.1: names and values, and such as xeval.Run does not take
	x := parse(t, "<a><b>1</b><b>2</b></a>") // a 1, b 2, b 4
	one := api.Value{Kind: api.Numbers, Num: api.Num{V: api.Places}}
	two := api.Value{Kind: api.Strings, Text: "2"}
	for _, c := range []struct {
		pattern string
		names   []string
		values  []api.Value
		want    string
	}{
		{"b[$v]", []string{"v"}, []api.Value{one}, "2"},
		{"b[$v]", []string{"v"}, []api.Value{two}, "2 4"}, // a text that is not empty is true
		{"b[. = $v]", []string{"v"}, []api.Value{two}, "4"},
		{"b[. = $v]", []string{"v", "v"}, []api.Value{one, two}, "2"},
		{"b[. = $w]", []string{"v", "w"}, []api.Value{one, two}, "4"},
		{"b[. = $p:w]", []string{"w", "p:w"}, []api.Value{one, two}, "4"},
		{"b[. = $v/b]", []string{"v"}, []api.Value{{Kind: api.Nodes, Nodes: []int{1}}}, "2 4"},
		{"b[. = $v]", []string{"v"}, []api.Value{{Kind: api.Nodes, Nodes: []int{0, 5}}}, "4"},
		// Without its value a path tells nothing where it is asked for; others play no part.
		{"b[$v]", nil, nil, ""}, {"b[$v]", []string{"w"}, []api.Value{one}, ""}, {"b[$v]|b", nil, nil, "2 4"}, {"b[true() or $v]", nil, nil, "2 4"}, {"b[1][$v]", nil, nil, ""}, {"c[$v]|a", nil, nil, "1"}, {"b[. = 2 or $v]", nil, nil, ""},
		// Names and values that are none: nothing matches, whatever the path asks for.
		{"b", []string{"v"}, nil, ""}, {"b", nil, []api.Value{one}, ""}, {"/", []string{"v", "w"}, []api.Value{one}, ""}, {"//b", []string{"v"}, []api.Value{one, two}, ""},
		{"b", []string{"v"}, []api.Value{{Kind: 9}}, ""}, {"b", []string{"v"}, []api.Value{{Kind: -1}}, ""}, {"b|/", []string{"v"}, []api.Value{{Kind: api.Nodes, Nodes: []int{6}}}, ""}, {"b|/", []string{"v"}, []api.Value{{Kind: api.Nodes, Nodes: []int{-1}}}, ""}, {"b", []string{"v"}, []api.Value{{Kind: api.Nodes, Nodes: []int{2, 1}}}, ""},
		{"b", []string{"v"}, []api.Value{{Kind: api.Numbers, Num: api.Num{Kind: 7}}}, ""}, {"b", []string{"v"}, []api.Value{{Kind: api.Numbers, Num: api.Num{V: api.MaxNum + 1}}}, ""}, {"b", []string{"v"}, []api.Value{{Kind: api.Strings, Bool: true}}, ""}, {"b", []string{"v", "w"}, []api.Value{one, {Kind: api.Bools, Text: "x"}}, ""},
		{"b", []string{"", "\xff"}, []api.Value{one, two}, "2 4"}, {"b", []string{"v"}, []api.Value{{}}, "2 4"},
	} {
		if got := matched(t, compile(t, c.pattern), x, c.names, c.values); got != c.want {
			t.Errorf("%s with %q %v: %s, want %s", c.pattern, c.names, c.values, got, c.want)
		}
	}
}

func TestErrorsTellNothing(t *testing.T) { // P9.1: a context with an error tells nothing, others do
	x := parse(t, "<r><a><b><c/></b></a><c e=''/></r>") // r 1, a 2, b 3, c 4, c 5, e 6
	for s, want := range map[string]string{
		// At the root it meets the c with an e, and so an error; at a it does not.
		"*//c[not(@e) or count(1)]": "4", "/*//c[not(@e) or count(1)]": "", "//c[not(@e) or count(1)]": "", "c[not(@e) or count(1)]": "4", "b/c[not(@e) or count(1)]": "4",
		"c[@e and count(1)]": "", "c[not(@e) or 1 | 2]": "4", "c[not(@e) or $v]|c[@e]": "4 5", "r//*[not(@e) or 'x'/y]": "", "a//*[not(@e) or 'x'/y]": "3 4", "r//*[self::a or 'x'/y]": "", "r/*[self::a or @e or 'x'/y]": "2 5",
		"*[not(format-number(1, ''))]": "",
	} {
		if got := matched(t, compile(t, s), x, nil, nil); got != want {
			t.Errorf("%s: %s, want %s", s, got, want)
		}
	}
}

// crowd is a tree of an element, and in it others with so many attributes each.
func crowd(t testing.TB, attrs ...int) *xdm.Tree {
	t.Helper()
	l := []api.Token{{Kind: api.Element, Name: "a"}}
	for _, count := range attrs {
		b := api.Token{Kind: api.Element, Name: "b"}
		for i := range count {
			b.Attrs = append(b.Attrs, api.Pair{Name: fmt.Sprint("k", i)})
		}
		l = append(l, b, api.Token{Kind: api.End, Name: "b"})
	}
	x, fault := xdm.Build(append(l, api.Token{Kind: api.End, Name: "a"})...)
	if fault != api.OK {
		t.Fatal(fault)
	}
	return x
}

func TestSteps(t *testing.T) { // P9.1: MaxSteps steps for each context, and no more
	// At a b/@k0 asks for itself, looks at each b, and at each attribute of each.
	for last, want := range map[int]bool{14: true, 15: false} {
		all := []int{last}
		for range 1008 {
			all = append(all, 64)
		}
		x := crowd(t, all...)
		if taken := 1 + len(all) + 1008*64 + last; (taken <= api.MaxSteps) != want {
			t.Fatal(taken)
		}
		for _, s := range []string{"b/@k0", "a|b/@k0", "b/@k0|b/@k0"} {
			if got := compile(t, s).Matches(x, 3, nil, nil); got != want {
				t.Error(s, last, got)
			}
		}
		// What is asked at one b takes few.
		if got := compile(t, "b/@k0|@k0").Which(x, 3, nil, nil); got[len(got)-1] != 1 || len(got) == 2 != want {
			t.Error(got)
		}
	}
	// Each path has steps of its own, and each context.
	x := crowd(t, make([]int, 200)...)
	costly := "b[count(//*) > count(/)]"
	if got := compile(t, strings.Repeat(costly+"|", 15)+"b").Which(x, 5, nil, nil); len(got) != 1 || got[0] != 15 {
		t.Error(got)
	}
	x = crowd(t, make([]int, 120)...)
	if got := compile(t, strings.Repeat(costly+"|", 15)+"b").Which(x, 5, nil, nil); len(got) != 16 {
		t.Error(got)
	}
}

func TestWhatFollows(t *testing.T) { // P9.2
	for _, s := range []string{sample, "<a/>", "<a b='1'/>", "<!--x--><a>y</a><?z?>"} {
		x := parse(t, s)
		root, nodes, attrs := compile(t, "/"), compile(t, "node()"), compile(t, "@*")
		for n := range x.Len() {
			kind := x.Kind(n)
			if got, want := root.Matches(x, n, nil, nil), n == 0; got != want {
				t.Error("/", s, n, got)
			}
			if got, want := nodes.Matches(x, n, nil, nil), kind != api.Root && kind != api.Attr; got != want {
				t.Error("node()", s, n, got)
			}
			if got, want := attrs.Matches(x, n, nil, nil), kind == api.Attr; got != want {
				t.Error("@*", s, n, got)
			}
		}
	}
}

func TestNoObjects(t *testing.T) { // P1: nil patterns and trees, numbers that are no nodes
	var none *xpattern.Pattern
	x := parse(t, "<a b='1'>x</a>")
	if none.Len() != 0 || none.Priority(0) != (api.Num{}) || none.Priority(-1) != (api.Num{}) {
		t.Error("nil")
	}
	all := "/|a|@b|node()|//a|a//text()|*/@*|*[1]"
	p := compile(t, all)
	for _, n := range []int{-1 << 63, -2, -1, 0, 1, 2, 3, 4, 5, 1 << 20, 1<<63 - 1} {
		if none.Which(x, n, nil, nil) != nil || none.Matches(x, n, nil, nil) || none.Which(nil, n, nil, nil) != nil || none.Matches(nil, n, nil, nil) {
			t.Error("nil", n)
		}
		if len(p.Which(nil, n, nil, nil)) != 0 || p.Matches(nil, n, nil, nil) {
			t.Error("of no tree", n)
		}
		if isNode := n >= 0 && n < x.Len(); p.Matches(x, n, nil, nil) != isNode || len(p.Which(x, n, nil, nil)) > 0 != isNode {
			t.Error(n)
		}
	}
}

func TestWhatIsHandedInStays(t *testing.T) { // P3, P6
	x := parse(t, "<a xmlns:p='u'><p:b>1</p:b><p:b>2</p:b></a>")
	scope := append(make([]api.Pair, 0, 4), api.Pair{Name: "p", Value: "u"})
	p, fault := xpattern.Compile("p:b[. = $v]|p:b", scope)
	if fault != api.OK || scope[0] != (api.Pair{Name: "p", Value: "u"}) || scope[:2][1] != (api.Pair{}) {
		t.Fatal(fault, scope)
	}
	scope[0] = api.Pair{Name: "z", Value: "z"}
	names := append(make([]string, 0, 3), "v")
	values := append(make([]api.Value, 0, 3), api.Value{Kind: api.Nodes, Nodes: append(make([]int, 0, 3), 2)})
	first := p.Which(x, 2, names, values)
	if !reflect.DeepEqual(first, []int{0, 1}) {
		t.Fatal(first)
	}
	first[0], first[1] = 7, 8
	if again := p.Which(x, 2, names, values); !reflect.DeepEqual(again, []int{0, 1}) {
		t.Error("an answer is kept", again)
	}
	if names[0] != "v" || names[:2][1] != "" || !reflect.DeepEqual(values[0].Nodes[:2], []int{2, 0}) || !reflect.DeepEqual(values[:2][1], api.Value{}) {
		t.Error("what is handed in has changed")
	}
	if got := p.Which(x, 4, names, values); !reflect.DeepEqual(got, []int{1}) {
		t.Error(got)
	}
}
