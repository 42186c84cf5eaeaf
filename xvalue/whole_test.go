package xvalue_test

import (
	"math/rand"
	"reflect"
	"slices"
	"strings"
	"testing"

	"stencil/api"
	"stencil/xdm"
	"stencil/xnum"
	"stencil/xvalue"
)

// someText is one by chance, of few characters.
func someText(r *rand.Rand) string {
	s := ""
	for range r.Intn(7) {
		s += []string{"a", "b", "c", "é", "😀", " ", "-"}[r.Intn(7)]
	}
	return s
}

func callText(t *testing.T, name string, l ...api.Value) string {
	t.Helper()
	v, e := xvalue.Call(nil, name, l...)
	if e != api.OK || v.Kind != api.Strings || !reflect.DeepEqual(v, str(v.Text)) {
		t.Fatal(name, l, v, e)
	}
	return v.Text
}

func callTruth(t *testing.T, name string, l ...api.Value) bool {
	t.Helper()
	v, e := xvalue.Call(nil, name, l...)
	if e != api.OK || !reflect.DeepEqual(v, truth(v.Bool)) {
		t.Fatal(name, l, v, e)
	}
	return v.Bool
}

func TestNot(t *testing.T) { // P7.4
	r := rand.New(rand.NewSource(3))
	for range 2000 {
		v := randomValue(r, nil)
		if callTruth(t, "not", v) == callTruth(t, "boolean", v) || callTruth(t, "boolean", v) != xvalue.Bool(nil, v) {
			t.Fatal(v)
		}
	}
}

func TestCuts(t *testing.T) { // P7.5, and what contains and starts-with say of it
	r := rand.New(rand.NewSource(4))
	found := 0
	for range 20000 {
		s, u := someText(r), someText(r)
		ahead, behind := callText(t, "substring-before", str(s), str(u)), callText(t, "substring-after", str(s), str(u))
		if !callTruth(t, "contains", str(s), str(u)) {
			if ahead != "" || behind != "" || strings.Contains(s, u) {
				t.Fatalf("%q at %q: %q, %q", s, u, ahead, behind)
			}
			continue
		}
		found++
		if callText(t, "concat", str(ahead), str(u), str(behind)) != s || u != "" && strings.Contains(ahead, u) {
			t.Fatalf("%q at %q: %q, %q", s, u, ahead, behind)
		}
		if callTruth(t, "starts-with", str(s), str(u)) != (ahead == "" && strings.HasPrefix(s, u)) {
			t.Fatalf("%q at %q", s, u)
		}
	}
	if found < 1000 {
		t.Error(found)
	}
}

func TestTranslateAgainstLists(t *testing.T) { // P7.2
	r := rand.New(rand.NewSource(5))
	for range 20000 {
		s, u, v := someText(r), someText(r), someText(r)
		from, to := []rune(u), []rune(v)
		var want []rune
		for _, c := range s {
			place := slices.Index(from, c)
			if place < 0 {
				want = append(want, c)
			} else if place < len(to) {
				want = append(want, to[place])
			}
		}
		if got := callText(t, "translate", str(s), str(u), str(v)); got != string(want) {
			t.Fatalf("%q, %q, %q: %q, want %q", s, u, v, got, string(want))
		}
	}
}

func TestSubstringAgainstPlaces(t *testing.T) { // P7.2
	r := rand.New(rand.NewSource(6))
	numbers := []string{"NaN", "inf", "-inf", "0", "0.5", "0.499999", "1", "1.5", "2", "2.5", "-1", "-1.5", "-0.5", "3", "4", "7", "1000000000000", "-1000000000000"}
	for range 30000 {
		s, n, m := someText(r), num(numbers[r.Intn(len(numbers))]), num(numbers[r.Intn(len(numbers))])
		end := xnum.Add(xnum.Round(n.Num), xnum.Round(m.Num))
		var two, three string
		for i, c := range []rune(s) {
			place := xnum.Int(i + 1)
			from, ok := xnum.Compare(place, xnum.Round(n.Num))
			if !ok || from < 0 {
				continue
			}
			two += string(c)
			if to, ok := xnum.Compare(place, end); ok && to < 0 {
				three += string(c)
			}
		}
		if got := callText(t, "substring", str(s), n); got != two {
			t.Fatalf("%q, %v: %q, want %q", s, n, got, two)
		}
		if got := callText(t, "substring", str(s), n, m); got != three {
			t.Fatalf("%q, %v, %v: %q, want %q", s, n, m, got, three)
		}
	}
}

func TestBytesThatAreNoText(t *testing.T) { // P1: a byte that is no part of a character counts as one
	for _, c := range []struct {
		name string
		l    []api.Value
		want api.Value
	}{
		{"translate", []api.Value{str("\xfea\xff"), str("\xff"), str("x")}, str("\xfeax")},
		{"translate", []api.Value{str("\ufffd\xff"), str("\xff"), str("")}, str("\ufffd")},
		{"translate", []api.Value{str("abc"), str("abc"), str("\xff\xe2\x82z")}, str("\xff\xe2\x82")},
		{"substring", []api.Value{str("\xff\xfea"), num("2"), num("1")}, str("\xfe")},
		{"string-length", []api.Value{str("\xff\xfe\xe2\x82a")}, num("5")},
		{"contains", []api.Value{str("a\xffb"), str("\xff")}, truth(true)},
	} {
		if got, e := xvalue.Call(nil, c.name, c.l...); e != api.OK || !reflect.DeepEqual(got, c.want) {
			t.Errorf("%s of %v: %v, %d", c.name, c.l, got, e)
		}
	}
}

// anyValue is one of any fields, mostly not right.
func anyValue(r *rand.Rand) api.Value {
	v := api.Value{Kind: api.ValueKind(r.Intn(8) - 2), Bool: r.Intn(2) == 0}
	for range r.Intn(4) {
		v.Nodes = append(v.Nodes, []int{-1 << 63, -1, 0, 3, 5, 16, 17, 1<<63 - 1}[r.Intn(8)])
	}
	v.Num = api.Num{Kind: api.NumKind(r.Intn(8) - 2), V: []int64{0, 1, -1, api.MaxNum, -api.MaxNum, 1<<63 - 1, -1 << 63}[r.Intn(7)]}
	v.Text = []string{"", "a", "\xff", "12", "#,##0.00", strings.Repeat("z", 40000)}[r.Intn(6)]
	return v
}

func TestAnyArguments(t *testing.T) { // P1, P2, P3, P6
	x := tree(t)
	r := rand.New(rand.NewSource(7))
	names := append(slices.Clone(others), "last")
	for name := range arities {
		names = append(names, name)
	}
	slices.Sort(names)
	for range 30000 {
		var l []api.Value
		for range r.Intn(5) {
			l = append(l, anyValue(r))
		}
		kept := make([]api.Value, len(l))
		for i, v := range l {
			kept[i] = v
			kept[i].Nodes = slices.Clone(v.Nodes)
		}
		on := []*xdm.Tree{nil, x}[r.Intn(2)]
		name := names[r.Intn(len(names))]
		v, e := xvalue.Call(on, name, l...)
		again, late := xvalue.Call(on, name, l...)
		if e != late || !reflect.DeepEqual(v, again) || e != api.OK && !reflect.DeepEqual(v, api.Value{}) || e == api.OK && v.Nodes != nil {
			t.Fatal(name, l, v, e, again, late)
		}
		if _, _, ok := xvalue.Arity(name); ok == (e == api.ErrName) {
			t.Fatal(name, e)
		}
		if len(l) > 1 {
			op := api.Op(r.Intn(26) - 1)
			if xvalue.Compare(on, op, l[0], l[1]) != xvalue.Compare(on, op, l[0], l[1]) {
				t.Fatal(l)
			}
			_, _, _ = xvalue.Number(on, l[0]), xvalue.String(on, l[0]), xvalue.Bool(on, l[0])
		}
		if !reflect.DeepEqual(l, kept) && len(l) > 0 {
			t.Fatal(l, kept)
		}
	}
}

func TestExamples(t *testing.T) { // the chapter's examples
	if got := callText(t, "substring", num("12345"), num("1.5"), num("2.6")); got != "234" {
		t.Error(got)
	}
	if got := callText(t, "translate", str("bar"), str("abc"), str("AB")); got != "BAr" {
		t.Error(got)
	}
}
