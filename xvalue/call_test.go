package xvalue_test

import (
	"reflect"
	"strings"
	"testing"

	"stencil/api"
	"stencil/xdm"
	"stencil/xvalue"
)

// arities are the least and the most of all functions.
var arities = map[string][2]int{
	"boolean": {1, 1}, "not": {1, 1}, "true": {0, 0}, "false": {0, 0},
	"number": {0, 1}, "floor": {1, 1}, "ceiling": {1, 1}, "round": {1, 1}, "sum": {1, 1}, "count": {1, 1},
	"string": {0, 1}, "concat": {2, 8}, "starts-with": {2, 2}, "contains": {2, 2}, "substring-before": {2, 2}, "substring-after": {2, 2},
	"string-length": {0, 1}, "normalize-space": {0, 1}, "translate": {3, 3}, "substring": {2, 3}, "format-number": {2, 2},
	"name": {0, 1}, "local-name": {0, 1}, "namespace-uri": {0, 1}, "last": {0, 0}, "position": {0, 0},
}

// others are names of no function here.
var others = []string{"", "lang", "Not", "not ", "p:not", "substring-", "id", "key", "document", "text", "é", "\xff", "concat()", "string_length"}

func TestArity(t *testing.T) { // P7.2
	for name, want := range arities {
		if least, most, ok := xvalue.Arity(name); !ok || least != want[0] || most != want[1] {
			t.Error(name, least, most, ok)
		}
	}
	for _, name := range others {
		if least, most, ok := xvalue.Arity(name); ok || least != 0 || most != 0 {
			t.Error(name, least, most, ok)
		}
	}
}

func TestCounts(t *testing.T) { // P7.2: ErrName ahead of ErrCount ahead of ErrKind
	x := tree(t)
	for name, want := range arities {
		for n := range 12 {
			l := make([]api.Value, n)
			for i := range l {
				l[i] = str("0")
			}
			v, e := xvalue.Call(x, name, l...)
			wrong := n < want[0] || n > want[1] || n == 0 && name != "true" && name != "false"
			if wrong != (e == api.ErrCount) || wrong && !reflect.DeepEqual(v, api.Value{}) {
				t.Errorf("%s of %d: %v, %d", name, n, v, e)
			}
		}
	}
	for _, name := range others {
		for n := range 10 {
			if v, e := xvalue.Call(x, name, make([]api.Value, n)...); e != api.ErrName || !reflect.DeepEqual(v, api.Value{}) {
				t.Error(name, n, v, e)
			}
		}
	}
}

func TestKinds(t *testing.T) { // P7.2: ErrKind, if an argument must be nodes and is none
	x := tree(t)
	must := map[string]bool{"sum": true, "count": true, "name": true, "local-name": true, "namespace-uri": true}
	for name, most := range arities {
		for _, v := range []api.Value{nodes(), nodes(3), num("1"), str("1"), truth(true)} {
			l := []api.Value{v, v, v}[:min(most[1], 3)]
			if len(l) == 0 {
				continue
			}
			got, e := xvalue.Call(x, name, l...)
			if want := must[name] && v.Kind != api.Nodes; want != (e == api.ErrKind) || want && !reflect.DeepEqual(got, api.Value{}) {
				t.Errorf("%s of %v: %v, %d", name, v, got, e)
			}
		}
	}
}

func TestCall(t *testing.T) { // P7.2: every function, of arguments of each kind
	x := tree(t)
	yes, no := truth(true), truth(false)
	for _, c := range []struct {
		name string
		l    []api.Value
		want api.Value
	}{
		{"true", nil, yes}, {"false", nil, no},
		{"boolean", []api.Value{nodes()}, no}, {"boolean", []api.Value{nodes(9)}, yes}, {"boolean", []api.Value{num("0")}, no}, {"boolean", []api.Value{num("-1")}, yes}, {"boolean", []api.Value{num("NaN")}, no}, {"boolean", []api.Value{str("")}, no}, {"boolean", []api.Value{str("0")}, yes}, {"boolean", []api.Value{yes}, yes}, {"boolean", []api.Value{no}, no},
		{"not", []api.Value{nodes()}, yes}, {"not", []api.Value{nodes(9)}, no}, {"not", []api.Value{num("0")}, yes}, {"not", []api.Value{num("inf")}, no}, {"not", []api.Value{str("")}, yes}, {"not", []api.Value{str("x")}, no}, {"not", []api.Value{yes}, no}, {"not", []api.Value{no}, yes},

		{"number", []api.Value{nodes(5, 3)}, num("2")}, {"number", []api.Value{nodes()}, num("NaN")}, {"number", []api.Value{num("1.5")}, num("1.5")}, {"number", []api.Value{str(" 12.5 ")}, num("12.5")}, {"number", []api.Value{str("x")}, num("NaN")}, {"number", []api.Value{yes}, num("1")}, {"number", []api.Value{no}, num("0")},
		{"floor", []api.Value{num("2.5")}, num("2")}, {"floor", []api.Value{num("-2.5")}, num("-3")}, {"floor", []api.Value{str("3.9")}, num("3")}, {"floor", []api.Value{nodes(10)}, num("3")}, {"floor", []api.Value{yes}, num("1")}, {"floor", []api.Value{num("inf")}, num("inf")},
		{"ceiling", []api.Value{num("2.5")}, num("3")}, {"ceiling", []api.Value{num("-2.5")}, num("-2")}, {"ceiling", []api.Value{str("x")}, num("NaN")}, {"ceiling", []api.Value{nodes(10)}, num("4")}, {"ceiling", []api.Value{no}, num("0")},
		{"round", []api.Value{num("2.5")}, num("3")}, {"round", []api.Value{num("-2.5")}, num("-2")}, {"round", []api.Value{num("2.499999")}, num("2")}, {"round", []api.Value{nodes(10)}, num("4")}, {"round", []api.Value{num("-inf")}, num("-inf")}, {"round", []api.Value{str("1.5")}, num("2")},
		{"sum", []api.Value{nodes()}, num("0")}, {"sum", []api.Value{nodes(3, 5)}, num("3")}, {"sum", []api.Value{nodes(2, 3, 10, 11, 12, 14, 15)}, num("29.5")}, {"sum", []api.Value{nodes(3, 7)}, num("NaN")},
		{"count", []api.Value{nodes()}, num("0")}, {"count", []api.Value{nodes(3, 5, 7)}, num("3")},

		{"string", []api.Value{nodes(3, 5)}, str("1")}, {"string", []api.Value{nodes()}, str("")}, {"string", []api.Value{num("-0.5")}, str("-0.5")}, {"string", []api.Value{str("é")}, str("é")}, {"string", []api.Value{yes}, str("true")}, {"string", []api.Value{no}, str("false")},
		{"concat", []api.Value{str("a"), str("b")}, str("ab")}, {"concat", []api.Value{nodes(3, 5), num("1.50"), yes, str("")}, str("11.5true")}, {"concat", []api.Value{str("1"), str("2"), str("3"), str("4"), str("5"), str("6"), str("7"), str("8")}, str("12345678")},
		{"starts-with", []api.Value{str("abc"), str("ab")}, yes}, {"starts-with", []api.Value{str("abc"), str("b")}, no}, {"starts-with", []api.Value{str("abc"), str("")}, yes}, {"starts-with", []api.Value{str(""), str("")}, yes}, {"starts-with", []api.Value{yes, str("tr")}, yes}, {"starts-with", []api.Value{nodes(3), num("1")}, yes}, {"starts-with", []api.Value{str("ab"), str("abc")}, no},
		{"contains", []api.Value{str("abc"), str("c")}, yes}, {"contains", []api.Value{str("abc"), str("ac")}, no}, {"contains", []api.Value{str("abc"), str("")}, yes}, {"contains", []api.Value{str(""), str("a")}, no}, {"contains", []api.Value{nodes(0), num("3.5")}, yes}, {"contains", []api.Value{no, str("als")}, yes},
		{"substring-before", []api.Value{str("a-b-c"), str("-")}, str("a")}, {"substring-before", []api.Value{str("abc"), str("x")}, str("")}, {"substring-before", []api.Value{str("abc"), str("")}, str("")}, {"substring-before", []api.Value{num("12.5"), str(".")}, str("12")}, {"substring-before", []api.Value{nodes(0), str("x")}, str("1 2 ")}, {"substring-before", []api.Value{str("éa"), str("a")}, str("é")},
		{"substring-after", []api.Value{str("a-b-c"), str("-")}, str("b-c")}, {"substring-after", []api.Value{str("abc"), str("x")}, str("")}, {"substring-after", []api.Value{str("abc"), str("")}, str("abc")}, {"substring-after", []api.Value{num("12.5"), str(".")}, str("5")}, {"substring-after", []api.Value{yes, nodes()}, str("true")}, {"substring-after", []api.Value{str("abc"), str("abc")}, str("")},
		{"string-length", []api.Value{str("é😀a")}, num("3")}, {"string-length", []api.Value{str("")}, num("0")}, {"string-length", []api.Value{num("1.5")}, num("3")}, {"string-length", []api.Value{nodes(16)}, num("3")}, {"string-length", []api.Value{no}, num("5")},
		{"normalize-space", []api.Value{str(" a \t\n b ")}, str("a b")}, {"normalize-space", []api.Value{str(" \r ")}, str("")}, {"normalize-space", []api.Value{nodes(5)}, str("2")}, {"normalize-space", []api.Value{num("3")}, str("3")}, {"normalize-space", []api.Value{str("\u00a0a")}, str("\u00a0a")},
		{"translate", []api.Value{str("bar"), str("abc"), str("AB")}, str("BAr")}, {"translate", []api.Value{str("abc"), str("c"), str("")}, str("ab")}, {"translate", []api.Value{str("aab"), str("aa"), str("xy")}, str("xxb")}, {"translate", []api.Value{str("aé"), str("éa"), str("a😀")}, str("😀a")}, {"translate", []api.Value{str("abc"), str(""), str("xyz")}, str("abc")}, {"translate", []api.Value{num("1.5"), str("."), str(",")}, str("1,5")}, {"translate", []api.Value{yes, str("e"), num("3")}, str("tru3")}, {"translate", []api.Value{str("ab"), str("ab"), str("ba")}, str("ba")}, {"translate", []api.Value{str("a"), str("a"), str("xyz")}, str("x")},

		{"substring", []api.Value{str("12345"), num("2")}, str("2345")}, {"substring", []api.Value{str("12345"), num("2"), num("3")}, str("234")}, {"substring", []api.Value{num("12345"), num("1.5"), num("2.6")}, str("234")},
		{"substring", []api.Value{str("12345"), num("0"), num("3")}, str("12")}, {"substring", []api.Value{str("12345"), num("-42"), num("inf")}, str("12345")}, {"substring", []api.Value{str("12345"), num("-inf"), num("inf")}, str("")}, {"substring", []api.Value{str("12345"), num("-inf")}, str("12345")}, {"substring", []api.Value{str("12345"), num("inf")}, str("")}, {"substring", []api.Value{str("12345"), num("inf"), num("-inf")}, str("")},
		{"substring", []api.Value{str("12345"), num("NaN")}, str("")}, {"substring", []api.Value{str("12345"), num("NaN"), num("3")}, str("")}, {"substring", []api.Value{str("12345"), num("1"), num("NaN")}, str("")}, {"substring", []api.Value{str("12345"), str("x"), num("3")}, str("")},
		{"substring", []api.Value{str("12345"), num("5")}, str("5")}, {"substring", []api.Value{str("12345"), num("6")}, str("")}, {"substring", []api.Value{str("12345"), num("5.5")}, str("")}, {"substring", []api.Value{str("12345"), num("0.4")}, str("12345")}, {"substring", []api.Value{str("12345"), num("3"), num("0.4")}, str("")}, {"substring", []api.Value{str("12345"), num("3"), num("-1")}, str("")}, {"substring", []api.Value{str("12345"), num("-1"), num("2.5")}, str("1")},
		{"substring", []api.Value{str("é😀a"), num("2"), num("1")}, str("😀")}, {"substring", []api.Value{str("abc"), num("1000000000000"), num("1000000000000")}, str("")}, {"substring", []api.Value{str("abc"), num("-1000000000000"), num("1000000000000")}, str("")}, {"substring", []api.Value{str("abc"), num("-1000000000000"), num("inf")}, str("abc")}, {"substring", []api.Value{nodes(0), yes, num("3")}, str("1 2")}, {"substring", []api.Value{yes, nodes(5), nodes(3)}, str("r")},

		{"name", []api.Value{nodes()}, str("")}, {"name", []api.Value{nodes(10, 12)}, str("p:w")}, {"name", []api.Value{nodes(12)}, str("p:c")}, {"name", []api.Value{nodes(11)}, str("b")}, {"name", []api.Value{nodes(14)}, str("pi")}, {"name", []api.Value{nodes(15)}, str("")}, {"name", []api.Value{nodes(16)}, str("")}, {"name", []api.Value{nodes(0)}, str("")}, {"name", []api.Value{nodes(1)}, str("r")},
		{"local-name", []api.Value{nodes()}, str("")}, {"local-name", []api.Value{nodes(10)}, str("w")}, {"local-name", []api.Value{nodes(12)}, str("c")}, {"local-name", []api.Value{nodes(14, 15)}, str("pi")}, {"local-name", []api.Value{nodes(0, 1)}, str("")},
		{"namespace-uri", []api.Value{nodes()}, str("")}, {"namespace-uri", []api.Value{nodes(10)}, str("u")}, {"namespace-uri", []api.Value{nodes(12)}, str("u")}, {"namespace-uri", []api.Value{nodes(11, 12)}, str("")}, {"namespace-uri", []api.Value{nodes(14)}, str("")},

		{"format-number", []api.Value{num("1234.567"), str("#,##0.00")}, str("1,234.57")}, {"format-number", []api.Value{nodes(10), str("0")}, str("4")}, {"format-number", []api.Value{yes, num("0")}, str("1")}, {"format-number", []api.Value{str("x"), str("0")}, str("NaN")}, {"format-number", []api.Value{num("-0.5"), str("0%;(0)")}, str("(50)")}, {"format-number", []api.Value{num("inf"), str("<0>")}, str("<Infinity>")},
	} {
		got, e := xvalue.Call(x, c.name, c.l...)
		if e != api.OK || !reflect.DeepEqual(got, c.want) {
			t.Errorf("%s of %v: %v, %d, want %v", c.name, c.l, got, e, c.want)
		}
	}
}

func TestSumInOrder(t *testing.T) { // P7.2: what has passed the greatest number is infinite for good
	for text, want := range map[string]string{
		"<r><x>1000000000000</x><x>1</x><x>-5</x></r>":  "inf",
		"<r><x>1000000000000</x><x>-5</x><x>1</x></r>":  "999999999996",
		"<r><x>-1000000000000</x><x>-1</x><x>5</x></r>": "-inf",
	} {
		x, _ := xdm.Parse(text)
		if v, e := xvalue.Call(x, "sum", nodes(2, 4, 6)); e != api.OK || !reflect.DeepEqual(v, num(want)) {
			t.Error(text, v, e)
		}
	}
}

func TestMarks(t *testing.T) { // P7.2: xnum.Format's error
	for _, picture := range []string{"", "#0#", "0,", "x"} {
		if v, e := xvalue.Call(nil, "format-number", num("1"), str(picture)); e != api.ErrMark || !reflect.DeepEqual(v, api.Value{}) {
			t.Errorf("%q: %v, %d", picture, v, e)
		}
	}
}

func TestLimit(t *testing.T) { // P7.2: ErrLimit, if the answer would be a text of more than MaxText bytes
	full, over := str(strings.Repeat("x", api.MaxText)), str(strings.Repeat("x", api.MaxText+1))
	half := str(strings.Repeat("y", api.MaxText/2))
	twice := str(strings.Repeat("é", api.MaxText/2))
	for _, c := range []struct {
		name string
		l    []api.Value
		want int // bytes; -1: too many
	}{
		{"string", []api.Value{full}, api.MaxText}, {"string", []api.Value{over}, -1},
		{"concat", []api.Value{half, half}, api.MaxText}, {"concat", []api.Value{half, half, str("")}, api.MaxText}, {"concat", []api.Value{half, half, str("z")}, -1}, {"concat", []api.Value{full, full, full, full, full, full, full, full}, -1},
		{"normalize-space", []api.Value{full}, api.MaxText}, {"normalize-space", []api.Value{over}, -1}, {"normalize-space", []api.Value{str(" " + full.Text + "  ")}, api.MaxText},
		{"translate", []api.Value{half, str("y"), str("é")}, api.MaxText}, {"translate", []api.Value{half, str("y"), str("€")}, -1}, {"translate", []api.Value{over, str("x"), str("")}, 0}, {"translate", []api.Value{over, str(""), str("")}, -1},
		{"substring", []api.Value{over, num("1")}, -1}, {"substring", []api.Value{over, num("2")}, api.MaxText}, {"substring", []api.Value{twice, num("1")}, api.MaxText},
		{"substring-before", []api.Value{str(over.Text + "-"), str("-")}, -1}, {"substring-before", []api.Value{str(full.Text + "-"), str("-")}, api.MaxText},
		{"substring-after", []api.Value{str("-" + over.Text), str("-")}, -1}, {"substring-after", []api.Value{over, str("")}, -1}, {"substring-after", []api.Value{full, str("")}, api.MaxText},
		{"format-number", []api.Value{num("1"), str(strings.Repeat("0", api.MaxText))}, api.MaxText}, {"format-number", []api.Value{num("1"), str(strings.Repeat("0", api.MaxText+1))}, -1}, {"format-number", []api.Value{num("1"), str("0" + over.Text)}, -1},
	} {
		v, e := xvalue.Call(nil, c.name, c.l...)
		if c.want < 0 && (e != api.ErrLimit || !reflect.DeepEqual(v, api.Value{})) || c.want >= 0 && (e != api.OK || v.Kind != api.Strings || len(v.Text) != c.want) {
			t.Errorf("%s: %d bytes, %d, want %d", c.name, len(v.Text), e, c.want)
		}
	}
	// What tells no text has no limit.
	for name, want := range map[string]api.Value{"string-length": num("32769"), "boolean": truth(true), "number": num("NaN")} {
		if v, e := xvalue.Call(nil, name, over); e != api.OK || !reflect.DeepEqual(v, want) {
			t.Error(name, v, e)
		}
	}
	if v, e := xvalue.Call(nil, "contains", over, full); e != api.OK || !v.Bool {
		t.Error(e)
	}
	if xvalue.String(nil, over) != over.Text {
		t.Error("String has no limit")
	}
}
