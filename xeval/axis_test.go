package xeval_test

import (
	"fmt"
	"math/rand"
	"slices"
	"strings"
	"testing"

	"stencil/api"
	"stencil/xdm"
	"stencil/xeval"
)

func parse(t testing.TB, s string) *xdm.Tree {
	t.Helper()
	x, e := xdm.Parse(s)
	if e != api.OK {
		t.Fatal(s, e)
	}
	return x
}

// axes are their names, by their numbers.
var axes = strings.Split("child descendant parent ancestor following-sibling preceding-sibling following preceding attribute self descendant-or-self ancestor-or-self", " ")

// The nodes: root 0, a comment 1, a 2, its attributes x 3, y 4; b 5, z 6, a text 7, c 8, d 9; e 10; an instruction 11, f 12, a text 13; an instruction 14.
const plain = "<!--k--><a x='1' y='2'><b z='3'>t<c><d/></c></b><e/><?p q?><f>u</f></a><?r s?>"

func TestAxis(t *testing.T) { // P8.1
	x := parse(t, plain)
	if x.Len() != 15 {
		t.Fatal(x.Len())
	}
	for n, want := range map[int][]string{ // by axis, in the order of api
		0:  {"1 2 14", "1 2 5 7 8 9 10 11 12 13 14", "", "", "", "", "", "", "", "0", "0 1 2 5 7 8 9 10 11 12 13 14", "0"},
		1:  {"", "", "0", "0", "2 14", "", "2 5 7 8 9 10 11 12 13 14", "", "", "1", "1", "1 0"},
		2:  {"5 10 11 12", "5 7 8 9 10 11 12 13", "0", "0", "14", "1", "14", "1", "3 4", "2", "2 5 7 8 9 10 11 12 13", "2 0"},
		3:  {"", "", "2", "2 0", "", "", "5 7 8 9 10 11 12 13 14", "1", "", "3", "3", "3 2 0"},
		4:  {"", "", "2", "2 0", "", "", "5 7 8 9 10 11 12 13 14", "1", "", "4", "4", "4 2 0"},
		5:  {"7 8", "7 8 9", "2", "2 0", "10 11 12", "", "10 11 12 13 14", "1", "6", "5", "5 7 8 9", "5 2 0"},
		6:  {"", "", "5", "5 2 0", "", "", "7 8 9 10 11 12 13 14", "1", "", "6", "6", "6 5 2 0"},
		7:  {"", "", "5", "5 2 0", "8", "", "8 9 10 11 12 13 14", "1", "", "7", "7", "7 5 2 0"},
		9:  {"", "", "8", "8 5 2 0", "", "", "10 11 12 13 14", "7 1", "", "9", "9", "9 8 5 2 0"},
		11: {"", "", "2", "2 0", "12", "10 5", "12 13 14", "10 9 8 7 5 1", "", "11", "11", "11 2 0"},
		13: {"", "", "12", "12 2 0", "", "", "14", "11 10 9 8 7 5 1", "", "13", "13", "13 12 2 0"},
		14: {"", "", "0", "0", "", "2 1", "", "13 12 11 10 9 8 7 5 2 1", "", "14", "14", "14 0"},
	} {
		for a, s := range want {
			if got := strings.Trim(fmt.Sprint(xeval.Axis(x, n, api.Axis(a))), "[]"); got != s {
				t.Errorf("%s of %d: %s, want %s", axes[a], n, got, s)
			}
		}
	}
}

func TestNoAxis(t *testing.T) { // P8.1, P1: none, if t is nil, or n or a is none
	x := parse(t, plain)
	for a := api.Axis(-3); a < 16; a++ {
		for _, n := range []int{-1 << 63, -1, 15, 16, 1<<63 - 1} {
			if l := xeval.Axis(x, n, a); len(l) > 0 {
				t.Error(n, a, l)
			}
		}
		if l := xeval.Axis(nil, 0, a); len(l) > 0 {
			t.Error(a, l)
		}
		if l := xeval.Axis(x, 2, a); a < 0 || a > api.AncestorOrSelf {
			if len(l) > 0 {
				t.Error(a, l)
			}
		}
	}
	for _, a := range []api.Axis{-1 << 63, 1<<63 - 1} {
		if l := xeval.Axis(x, 2, a); len(l) > 0 {
			t.Error(a, l)
		}
	}
}

// holds tells whether a node lies in another one, by way of parents.
func holds(x *xdm.Tree, outer, n int) bool {
	for n = x.Parent(n); n >= 0; n = x.Parent(n) {
		if n == outer {
			return true
		}
	}
	return false
}

// isOn tells whether a node is on an axis of another one, as the chapter says it.
func isOn(x *xdm.Tree, a api.Axis, from, n int) bool {
	attr, fromAttr := x.Kind(n) == api.Attr, x.Kind(from) == api.Attr
	siblings := !attr && !fromAttr && from > 0 && n > 0 && x.Parent(n) == x.Parent(from)
	switch a {
	case api.Child:
		return !attr && x.Parent(n) == from
	case api.Descendant:
		return !attr && holds(x, from, n)
	case api.Parent:
		return x.Parent(from) == n
	case api.Ancestor:
		return holds(x, n, from)
	case api.FollowingSibling:
		return siblings && n > from
	case api.PrecedingSibling:
		return siblings && n < from
	case api.Following:
		return !attr && n > from && !holds(x, from, n)
	case api.Preceding:
		return !attr && n < from && !holds(x, n, from)
	case api.Attribute:
		return attr && x.Parent(n) == from
	case api.Self:
		return n == from
	case api.DescendantOrSelf:
		return n == from || !attr && holds(x, from, n)
	}
	return n == from || holds(x, n, from)
}

// onAxis are the nodes on an axis, the nearest one first.
func onAxis(x *xdm.Tree, a api.Axis, from int) []int {
	var l []int
	for n := range x.Len() {
		if isOn(x, a, from, n) {
			l = append(l, n)
		}
	}
	switch a {
	case api.Parent, api.Ancestor, api.PrecedingSibling, api.Preceding, api.AncestorOrSelf:
		slices.Reverse(l)
	}
	return l
}

// randomTree is one of few names.
func randomTree(r *rand.Rand) *xdm.Tree {
	pick := func(l ...string) string { return l[r.Intn(len(l))] }
	var inner func(deep int) string
	inner = func(deep int) string {
		if deep == 0 {
			return pick("1", "2", "x", "")
		}
		name := pick("a", "b", "c", "p:a")
		s := "<" + name
		for _, attr := range []string{"x", "y", "p:x", "xml:lang"} {
			if r.Intn(4) == 0 {
				s += " " + attr + "='" + pick("1", "2", "en", "de-AT", "") + "'"
			}
		}
		s += ">"
		for range r.Intn(4) {
			switch r.Intn(6) {
			case 0:
				s += "<!--" + pick("1", "k") + "-->"
			case 1:
				s += "<?" + pick("p", "q") + " 2?>"
			case 2:
				s += pick("1", "2 ", "x")
			default:
				s += inner(deep - 1)
			}
		}
		return s + "</" + name + ">"
	}
	s := pick("", "<!--k-->", "<?p 1?>") + "<r xmlns:p='u' x='7'>" + inner(1+r.Intn(3)) + inner(r.Intn(4)) + "</r>" + pick("", "<?q 2?>")
	x, e := xdm.Parse(s)
	if e != api.OK {
		panic(s)
	}
	return x
}

func TestAxisAgainstWords(t *testing.T) { // P8.1, P3
	r := rand.New(rand.NewSource(1))
	for range 300 {
		x := randomTree(r)
		for n := range x.Len() {
			for a := range api.AncestorOrSelf + 1 {
				got, want := xeval.Axis(x, n, a), onAxis(x, a, n)
				if !slices.Equal(got, want) {
					t.Fatalf("%s of %d: %v, want %v", axes[a], n, got, want)
				}
				for i := range got[:cap(got)] {
					got[:cap(got)][i] = -7
				}
				if !slices.Equal(xeval.Axis(x, n, a), want) {
					t.Fatalf("%s of %d lies in what was answered", axes[a], n)
				}
			}
		}
	}
}

func TestParts(t *testing.T) { // P8.3
	r := rand.New(rand.NewSource(2))
	for range 300 {
		x := randomTree(r)
		for n := range x.Len() {
			var all []int
			for _, a := range []api.Axis{api.Self, api.Ancestor, api.Descendant, api.Following, api.Preceding} {
				all = append(all, xeval.Axis(x, n, a)...)
			}
			slices.Sort(all)
			var want []int
			for m := range x.Len() {
				if x.Kind(m) != api.Attr || m == n {
					want = append(want, m)
				}
			}
			if !slices.Equal(all, want) {
				t.Fatal(n, all, want)
			}
		}
	}
}
