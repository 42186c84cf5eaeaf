package xvalue_test

import (
	"fmt"
	"math/rand"
	"reflect"
	"slices"
	"testing"

	"stencil/api"
	"stencil/xdm"
	"stencil/xnum"
	"stencil/xvalue"
)

// Values by hand.

func nodes(l ...int) api.Value      { return api.Value{Kind: api.Nodes, Nodes: l} }
func num(s string) api.Value        { return api.Value{Kind: api.Numbers, Num: number(s)} }
func str(s string) api.Value        { return api.Value{Kind: api.Strings, Text: s} }
func truth(b bool) api.Value        { return api.Value{Kind: api.Bools, Bool: b} }
func fin(v int64) api.Num           { return api.Num{V: v} }
func special(k api.NumKind) api.Num { return api.Num{Kind: k} }

// number is one of a text, infinite ones too.
func number(s string) api.Num {
	switch s {
	case "inf":
		return special(api.PlusInf)
	case "-inf":
		return special(api.MinusInf)
	}
	return xnum.Parse(s)
}

// The nodes: root 0, r 1, its attribute a 2, x 3 (of 4), x 5 (6), y 7 (8), z 9, p:w 10, b 11, p:c 12 (13), an instruction 14, a comment 15, a text 16.
const document = `<r xmlns:p="u" a="7"><x>1</x><x> 2 </x><y>x</y><z/><p:w b="3" p:c="4">3.5</p:w><?pi 5?><!--6-->t é</r>`

func tree(t testing.TB) *xdm.Tree {
	t.Helper()
	x, e := xdm.Parse(document)
	if e != api.OK || x.Len() != 17 {
		t.Fatal(e, x.Len())
	}
	return x
}

func TestConversions(t *testing.T) { // P7.1
	x := tree(t)
	for _, c := range []struct {
		v      api.Value
		text   string
		number api.Num
		truth  bool
	}{
		{nodes(), "", special(api.NaN), false},
		{nodes(3), "1", fin(1000000), true},
		{nodes(5, 3), " 2 ", fin(2000000), true},
		{nodes(3, 5, 7), "1", fin(1000000), true},
		{nodes(7), "x", special(api.NaN), true},
		{nodes(9), "", special(api.NaN), true},
		{nodes(0), "1 2 x3.5t é", special(api.NaN), true},
		{nodes(1), "1 2 x3.5t é", special(api.NaN), true},
		{nodes(2), "7", fin(7000000), true},
		{nodes(10), "3.5", fin(3500000), true},
		{nodes(14), "5", fin(5000000), true},
		{nodes(15), "6", fin(6000000), true},
		{nodes(16), "t é", special(api.NaN), true},
		{num("0"), "0", fin(0), false},
		{num("-0"), "0", fin(0), false},
		{num("0.000001"), "0.000001", fin(1), true},
		{num("-12.5"), "-12.5", fin(-12500000), true},
		{num("inf"), "Infinity", special(api.PlusInf), true},
		{num("-inf"), "-Infinity", special(api.MinusInf), true},
		{num("NaN"), "NaN", special(api.NaN), false},
		{str(""), "", special(api.NaN), false},
		{str("0"), "0", fin(0), true},
		{str("false"), "false", special(api.NaN), true},
		{str(" -3.25\n"), " -3.25\n", fin(-3250000), true},
		{str("+1"), "+1", special(api.NaN), true},
		{str("1e3"), "1e3", special(api.NaN), true},
		{str("9999999999999"), "9999999999999", special(api.PlusInf), true},
		{truth(true), "true", fin(1000000), true},
		{truth(false), "false", fin(0), false},
	} {
		if s, n, b := xvalue.String(x, c.v), xvalue.Number(x, c.v), xvalue.Bool(x, c.v); s != c.text || n != c.number || b != c.truth {
			t.Errorf("%v is %q, %v, %v, want %q, %v, %v", c.v, s, n, b, c.text, c.number, c.truth)
		}
	}
}

func TestWithoutTree(t *testing.T) { // P1: of a nil tree all nodes' strings are empty
	for _, v := range []api.Value{nodes(), nodes(0), nodes(3, 5)} {
		if s, n, b := xvalue.String(nil, v), xvalue.Number(nil, v), xvalue.Bool(nil, v); s != "" || n != special(api.NaN) || b != (len(v.Nodes) > 0) {
			t.Error(v, s, n, b)
		}
	}
	if xvalue.String(nil, num("2")) != "2" || xvalue.Number(nil, str("2")) != fin(2000000) || !xvalue.Bool(nil, str("2")) {
		t.Error("values without nodes need no tree")
	}
	if v, e := xvalue.Call(nil, "name", nodes(1)); e != api.OK || !reflect.DeepEqual(v, str("")) {
		t.Error(v, e)
	}
	if v, e := xvalue.Call(nil, "sum", nodes(1)); e != api.OK || v.Num != special(api.NaN) {
		t.Error(v, e)
	}
	if !xvalue.Compare(nil, api.Eq, nodes(1), str("")) {
		t.Error("an empty string")
	}
}

// ops are those that Compare knows, by their signs.
var ops = []struct {
	sign string
	op   api.Op
}{{"=", api.Eq}, {"!=", api.Ne}, {"<", api.Lt}, {"<=", api.Le}, {">", api.Gt}, {">=", api.Ge}}

func TestCompare(t *testing.T) { // P7.1, P7.4
	x := tree(t)
	none := nodes()
	some := nodes(3, 5, 7, 9) // 1, 2 with blanks, x, an empty one
	for _, c := range []struct {
		a, b api.Value
		is   string // the signs of all that hold
	}{
		// Both are nodes.
		{none, none, ""}, {none, some, ""}, {some, none, ""},
		{nodes(3), nodes(3), "= <= >="},
		{nodes(3), nodes(5), "!= < <="},
		{nodes(5), nodes(3), "!= > >="},
		{nodes(3, 5), nodes(3), "= != <= > >="},
		{nodes(7), nodes(7), "="},
		{nodes(7), nodes(8), "="},
		{nodes(7), nodes(9), "!="},
		{nodes(7, 9), nodes(7, 9), "= !="},
		{some, some, "= != < <= > >="},
		{nodes(10), nodes(11), "!= > >="},
		{nodes(5), nodes(6), "= <= >="},
		// Nodes and a truth: any of them is as good as all.
		{none, truth(false), "= <= >="}, {none, truth(true), "!= < <="},
		{some, truth(true), "= <= >="}, {nodes(9), truth(true), "= <= >="}, {some, truth(false), "!= > >="},
		{truth(false), none, "= <= >="}, {truth(true), none, "!= > >="}, {truth(false), some, "!= < <="},
		// Nodes and a number.
		{none, num("1"), ""}, {none, num("NaN"), ""}, {num("1"), none, ""}, {num("NaN"), none, ""},
		{nodes(3), num("1"), "= <= >="}, {nodes(5), num("1"), "!= > >="}, {num("1"), nodes(5), "!= < <="},
		{nodes(3, 5), num("2"), "= != < <= >="}, {num("2"), nodes(3, 5), "= != <= > >="},
		{nodes(7), num("1"), "!="}, {num("1"), nodes(7), "!="}, {nodes(3), num("NaN"), "!="}, {nodes(7), num("NaN"), "!="},
		{nodes(3), num("inf"), "!= < <="}, {num("-inf"), nodes(3), "!= < <="},
		// Nodes and a string.
		{none, str(""), ""}, {str(""), none, ""}, {nodes(9), str(""), "="},
		{nodes(3), str("1"), "= <= >="}, {nodes(3), str("1.0"), "!= <= >="}, {nodes(5), str("2"), "!= <= >="}, {nodes(5), str(" 2 "), "= <= >="},
		{nodes(3, 7), str("x"), "= !="}, {str("0"), nodes(3, 7), "!= < <="}, {str("3"), nodes(3, 5), "!= > >="}, {nodes(7), str("y"), "!="},
		// No nodes: a truth is first, then a number.
		{truth(true), truth(true), "= <= >="}, {truth(false), truth(true), "!= < <="}, {truth(true), truth(false), "!= > >="},
		{truth(true), num("2"), "= < <="}, {num("2"), truth(true), "= > >="}, {truth(false), num("0"), "= <= >="}, {truth(false), num("NaN"), "="}, {truth(true), num("NaN"), "!="},
		{truth(true), str("0"), "= > >="}, {str("5"), truth(true), "= > >="}, {truth(false), str(""), "="}, {str("x"), truth(true), "="}, {truth(true), str(""), "!="},
		{num("1"), num("1"), "= <= >="}, {num("1"), num("1.000001"), "!= < <="}, {num("-1"), num("-2"), "!= > >="},
		{num("NaN"), num("NaN"), "!="}, {num("NaN"), num("1"), "!="}, {num("1"), num("NaN"), "!="},
		{num("inf"), num("inf"), "= <= >="}, {num("-inf"), num("inf"), "!= < <="}, {num("inf"), num("1000000000000"), "!= > >="},
		{num("1"), str("1.0"), "= <= >="}, {str(" 1 "), num("1"), "= <= >="}, {num("1"), str("x"), "!="}, {num("NaN"), str("NaN"), "!="},
		{str("a"), str("a"), "="}, {str("a"), str("b"), "!="}, {str("1"), str("1.0"), "!= <= >="}, {str("2"), str("10"), "!= < <="}, {str("10"), str("2"), "!= > >="}, {str(""), str(""), "="}, {str("NaN"), str("NaN"), "="},
	} {
		is := ""
		for _, o := range ops {
			if xvalue.Compare(x, o.op, c.a, c.b) {
				is += " " + o.sign
			}
		}
		if want := " " + c.is; is != want && is+" " != want {
			t.Errorf("%v and %v:%s, want%s", c.a, c.b, is, want)
		}
	}
}

func TestCompareByOthers(t *testing.T) { // P7.1: false, unless op is from Eq to Ge
	x := tree(t)
	for op := api.Op(-2); op < api.Step+3; op++ {
		if api.Eq <= op && op <= api.Ge {
			continue
		}
		for _, v := range []api.Value{nodes(3), num("1"), str("1"), truth(true)} {
			if xvalue.Compare(x, op, v, v) {
				t.Error(op, v)
			}
		}
	}
}

// randomValue is a right one of a tree's.
func randomValue(r *rand.Rand, x *xdm.Tree) api.Value {
	switch r.Intn(4) {
	case 0:
		var l []int
		for n := range x.Len() {
			if r.Intn(6) == 0 {
				l = append(l, n)
			}
		}
		return nodes(l...)
	case 1:
		return num([]string{"0", "1", "2", "3.5", "-1", "inf", "-inf", "NaN", "7"}[r.Intn(9)])
	case 2:
		return str([]string{"", "1", " 2 ", "2", "x", "3.5", "true", "-5"}[r.Intn(8)])
	}
	return truth(r.Intn(2) == 0)
}

// holds compares by the chapter's words, pair by pair.
func holds(x *xdm.Tree, op api.Op, a, b api.Value) bool {
	equality := op == api.Eq || op == api.Ne
	if a.Kind == api.Nodes || b.Kind == api.Nodes {
		if a.Kind == api.Bools || b.Kind == api.Bools {
			return holds(x, op, truth(xvalue.Bool(x, a)), truth(xvalue.Bool(x, b)))
		}
		for _, p := range each(x, a) {
			for _, q := range each(x, b) {
				if holds(x, op, p, q) {
					return true
				}
			}
		}
		return false
	}
	switch {
	case equality && (a.Kind == api.Bools || b.Kind == api.Bools):
		return (xvalue.Bool(x, a) == xvalue.Bool(x, b)) == (op == api.Eq)
	case equality && a.Kind == api.Strings && b.Kind == api.Strings:
		return (a.Text == b.Text) == (op == api.Eq)
	}
	by, ok := xnum.Compare(xvalue.Number(x, a), xvalue.Number(x, b))
	if !ok {
		return op == api.Ne
	}
	return [...]bool{by == 0, by != 0, by < 0, by <= 0, by > 0, by >= 0}[op-api.Eq]
}

// each are a value's nodes' strings, one by one, or it itself.
func each(x *xdm.Tree, v api.Value) []api.Value {
	if v.Kind != api.Nodes {
		return []api.Value{v}
	}
	var l []api.Value
	for _, n := range v.Nodes {
		l = append(l, str(x.String(n)))
	}
	return l
}

func TestCompareAgainstPairs(t *testing.T) { // P7.1
	x := tree(t)
	r := rand.New(rand.NewSource(1))
	seen := map[string]int{}
	for range 60000 {
		a, b, o := randomValue(r, x), randomValue(r, x), ops[r.Intn(len(ops))]
		want := holds(x, o.op, a, b)
		if xvalue.Compare(x, o.op, a, b) != want {
			t.Fatalf("%v %s %v is not %v", a, o.sign, b, want)
		}
		seen[fmt.Sprint(a.Kind, o.sign, b.Kind, want)]++
	}
	if len(seen) < 4*4*6*2-12 {
		t.Error(len(seen))
	}
}

func TestCompareMany(t *testing.T) { // P7.1, P1: sets of all nodes that a tree may have are compared at once
	tokens := []api.Token{{Kind: api.Element, Name: "r"}}
	for i := range 2000 {
		tokens = append(tokens, api.Token{Kind: api.Comment, Text: fmt.Sprint(i)}, api.Token{Kind: api.Pi, Name: "p", Text: fmt.Sprint(i + 2000)})
	}
	x, e := xdm.Build(append(tokens, api.Token{Kind: api.End, Name: "r"})...)
	if e != api.OK {
		t.Fatal(e)
	}
	var a, b []int
	for n := range x.Len() {
		switch x.Kind(n) {
		case api.Comment:
			a = append(a, n)
		case api.Pi:
			b = append(b, n)
		}
	}
	for range 100 {
		is := ""
		for _, o := range ops {
			if xvalue.Compare(x, o.op, nodes(a...), nodes(b...)) {
				is += o.sign + " "
			}
		}
		if is != "!= < <= " {
			t.Fatal(is)
		}
	}
}

func TestUnion(t *testing.T) { // P7.1
	for _, c := range [][3][]int{
		{nil, nil, nil}, {{}, {}, nil}, {{1}, nil, {1}}, {nil, {1, 2}, {1, 2}}, {{1, 3}, {2, 4}, {1, 2, 3, 4}},
		{{1, 2, 3}, {1, 2, 3}, {1, 2, 3}}, {{5, 6}, {1, 2}, {1, 2, 5, 6}}, {{0, 9}, {9}, {0, 9}},
		{{3, 1, 3}, {2, 1}, {1, 2, 3}}, {{-1}, {-2, 1 << 62}, {-2, -1, 1 << 62}},
	} {
		if got := xvalue.Union(c[0], c[1]); !slices.Equal(got, c[2]) {
			t.Errorf("Union(%v, %v) = %v, want %v", c[0], c[1], got, c[2])
		}
	}
}

func TestUnionOfAny(t *testing.T) { // P7.3 (E4), P3
	r := rand.New(rand.NewSource(2))
	list := func() []int {
		l := make([]int, 0, 12)
		for range r.Intn(8) {
			l = append(l, r.Intn(10))
		}
		return l
	}
	for range 5000 {
		a, b := list(), list()
		roomA, roomB := slices.Clone(a[:cap(a)]), slices.Clone(b[:cap(b)])
		known := map[int]bool{}
		for _, n := range append(slices.Clone(a), b...) {
			known[n] = true
		}
		got := xvalue.Union(a, b)
		for i, n := range got {
			if !known[n] || i > 0 && got[i-1] >= n || len(got) != len(known) {
				t.Fatal(a, b, got)
			}
		}
		if !slices.Equal(got, xvalue.Union(b, a)) || !slices.Equal(got, xvalue.Union(got, got)) || !slices.Equal(got, xvalue.Union(got, nil)) {
			t.Fatal(a, b, got)
		}
		// What is answered is the caller's: all of it may be written to.
		for i := range got[:cap(got)] {
			got[:cap(got)][i] = 77
		}
		if !slices.Equal(a[:cap(a)], roomA) || !slices.Equal(b[:cap(b)], roomB) {
			t.Fatal(a, b)
		}
	}
}
