package xsort_test

import (
	"math"
	"math/rand"
	"reflect"
	"slices"
	"strings"
	"testing"

	"stencil/api"
	"stencil/xnum"
	"stencil/xsort"
)

type row = []xsort.Key

func word(s string) xsort.Key { return xsort.Key{Text: s} }

func number(s string) xsort.Key {
	switch s {
	case "inf":
		return xsort.Key{Number: true, Num: api.Num{Kind: api.PlusInf}}
	case "-inf":
		return xsort.Key{Number: true, Num: api.Num{Kind: api.MinusInf}}
	}
	return xsort.Key{Number: true, Num: xnum.Parse(s)}
}

func down(k xsort.Key) xsort.Key {
	k.Down = true
	return k
}

// column is rows of one key each.
func column(make func(string) xsort.Key, l ...string) []row {
	var rows []row
	for _, s := range l {
		rows = append(rows, row{make(s)})
	}
	return rows
}

// turned is rows of which all keys are Down.
func turned(rows []row) []row {
	var other []row
	for _, r := range rows {
		var l row
		for _, k := range r {
			l = append(l, down(k))
		}
		other = append(other, l)
	}
	return other
}

func order(t *testing.T, rows []row, want ...int) {
	t.Helper()
	if got := xsort.Order(rows...); !slices.Equal(got, want) {
		t.Errorf("%+v: %v, want %v", rows, got, want)
	}
}

func TestOrderOfTexts(t *testing.T) { // P13.1: by their bytes
	order(t, nil)
	order(t, []row{nil}, 0)
	order(t, column(word, "a"), 0)
	order(t, column(word, "b", "a"), 1, 0)
	order(t, column(word, "a", "b"), 0, 1)
	order(t, column(word, "b", "c", "a", "b", "c", "a"), 2, 5, 0, 3, 1, 4)
	order(t, column(word, "ab", "a", "", "b", "abc", "aa"), 2, 1, 5, 0, 4, 3)
	order(t, column(word, "a", "B", "b", "A", "10", "9", " ", "_"), 6, 4, 5, 3, 1, 7, 0, 2)
	// Bytes, not letters, nor pairs of UTF-16: ffff is ahead of 10000.
	order(t, column(word, "z", "é", "e", "\U00010000", "\uffff", "\ufffd", "ê"), 2, 0, 1, 6, 5, 4, 3)
	order(t, column(word, "\xff", "\U0010ffff", "\x80", "\x00", "\x7f"), 3, 4, 2, 1, 0)
	order(t, turned(column(word, "b", "c", "a", "b", "c", "a")), 1, 4, 0, 3, 2, 5)
	order(t, turned(column(word, "ab", "a", "", "b")), 3, 0, 1, 2)
	// What a text has for a number plays no part.
	order(t, []row{{{Text: "b", Num: xnum.Int(1)}}, {{Text: "a", Num: xnum.Int(2)}}, {{Text: "a", Num: xnum.Int(1)}}}, 1, 2, 0)
}

func TestOrderOfNumbers(t *testing.T) { // P13.1: by xnum.Less
	order(t, column(number, "10", "9"), 1, 0)
	order(t, column(number, "2", "10", "1", "2", "10"), 2, 0, 3, 1, 4)
	order(t, column(number, "0", "-1", "0.000001", "-0.000001", "-inf", "inf", "x"), 6, 4, 1, 3, 0, 2, 5)
	order(t, column(number, "x", "inf", "y", "-inf", "inf", "-inf"), 0, 2, 3, 5, 1, 4)
	order(t, column(number, "1", "01", "1.0", "1.0000009"), 0, 1, 2, 3)
	order(t, turned(column(number, "2", "10", "1", "2", "10")), 1, 4, 0, 3, 2)
	order(t, turned(column(number, "x", "inf", "0", "-inf", "y")), 1, 2, 3, 0, 4)
	order(t, []row{{{Number: true, Num: api.Num{V: api.MaxNum}}}, {{Num: api.Num{V: -api.MaxNum}}}, {{Num: api.Num{V: api.MaxNum - 1}}}}, 1, 2, 0)
	// What a number has for a text plays no part.
	order(t, []row{{{Number: true, Text: "b", Num: xnum.Int(1)}}, {{Text: "a", Num: xnum.Int(2)}}, {{Text: "a", Num: xnum.Int(1)}}}, 0, 2, 1)
}

func TestOrderOfSeveralKeys(t *testing.T) { // P13.1: of alike ones by the second ones, and so on
	rows := []row{
		{word("b"), number("2")},
		{word("a"), number("10")},
		{word("b"), number("1")},
		{word("a"), number("9")},
		{word("b"), number("2")},
	}
	order(t, rows, 3, 1, 2, 0, 4)
	rows[0] = row{down(word("b")), number("2")}
	order(t, rows, 2, 0, 4, 3, 1)
	rows[0] = row{word("b"), down(number("2"))}
	order(t, rows, 1, 3, 0, 4, 2)
	rows[0] = row{down(word("b")), down(number("2"))}
	order(t, rows, 0, 4, 2, 1, 3)
	order(t, []row{{word("a"), word("b"), word("c")}, {word("a"), word("b"), word("b")}, {word("a"), word("a"), word("d")}}, 2, 1, 0)
}

func TestFirstRowSays(t *testing.T) { // P13.1: how all at a place are ordered, and how many keys count
	order(t, []row{{{Text: "b", Num: xnum.Int(1)}}, {{Text: "a", Num: xnum.Int(2), Number: true, Down: true}}, {{Text: "c", Num: xnum.Int(0), Number: true}}}, 1, 0, 2)
	order(t, []row{{{Text: "b", Num: xnum.Int(1), Number: true}}, {{Text: "a", Num: xnum.Int(2), Down: true}}, {{Text: "c"}}}, 2, 0, 1)
	order(t, []row{{{Text: "b", Num: xnum.Int(1), Number: true, Down: true}}, {{Text: "a", Num: xnum.Int(2)}}, {{Text: "c"}}}, 1, 0, 2)
	order(t, []row{{{Text: "b", Down: true}}, {{Text: "a"}}, {{Text: "c"}}}, 2, 0, 1)
	// No keys: all are alike.
	order(t, []row{nil, {word("b")}, {word("a")}}, 0, 1, 2)
	order(t, []row{{}, {number("2")}, {number("1")}, nil}, 0, 1, 2, 3)
	// What is behind the first row's keys is not looked at.
	order(t, []row{{word("a")}, {word("a"), word("z")}, {word("a"), word("b")}, {word("a")}}, 0, 1, 2, 3)
}

func TestKeysThatAreNotThere(t *testing.T) { // P13.1: a key that a row lacks is the zero Key
	order(t, []row{{word("b")}, {word("a")}, {word("b")}, nil}, 3, 1, 0, 2)
	order(t, []row{{word("")}, nil, {}, {word("")}}, 0, 1, 2, 3)
	order(t, []row{{number("1")}, nil, {number("-1")}, {number("0")}, {}, {number("x")}, {number("-inf")}}, 5, 6, 2, 1, 3, 4, 0)
	order(t, turned([]row{{number("1")}, nil, {number("-1")}, {number("0")}}), 0, 1, 3, 2)
	order(t, turned([]row{{word("b")}, nil, {word("a")}}), 0, 2, 1)
	order(t, []row{{word("a"), word("b")}, {word("a")}, {word("a"), word("a")}, nil, {word("b")}}, 3, 1, 2, 0, 4)
	order(t, []row{{word("a"), down(number("0"))}, {word("a")}, {word("a"), number("-1")}, {word("a"), number("1")}}, 3, 0, 1, 2)
}

// less tells whether a row comes ahead of another one, by the letter of the document.
func less(first, a, b row) bool {
	for i := range first {
		x, y := xsort.Key{}, xsort.Key{}
		if len(a) > i {
			x = a[i]
		}
		if len(b) > i {
			y = b[i]
		}
		ahead, behind := strings.Compare(x.Text, y.Text) < 0, strings.Compare(x.Text, y.Text) > 0
		if first[i].Number {
			ahead, behind = xnum.Less(x.Num, y.Num), xnum.Less(y.Num, x.Num)
		}
		if first[i].Down {
			ahead, behind = behind, ahead
		}
		if ahead || behind {
			return ahead
		}
	}
	return false
}

// counted is the order by counting, for each row, those ahead of it.
func counted(rows []row) []int {
	places := make([]int, len(rows))
	for i := range rows {
		ahead := 0
		for j := range rows {
			if less(rows[0], rows[j], rows[i]) || j < i && !less(rows[0], rows[i], rows[j]) {
				ahead++
			}
		}
		places[ahead] = i
	}
	return places
}

// someRow is one of so few keys that many are alike.
func someRow(chance *rand.Rand) row {
	var r row
	for range chance.Intn(4) {
		r = append(r, xsort.Key{
			Number: chance.Intn(2) == 0, Down: chance.Intn(2) == 0,
			Text: []string{"", "a", "b", "ab"}[chance.Intn(4)],
			Num:  []api.Num{{}, {V: 1}, {V: -1}, {Kind: api.NaN}, {Kind: api.PlusInf}, {Kind: api.MinusInf}}[chance.Intn(6)],
		})
	}
	return r
}

func TestOrderByCounting(t *testing.T) { // P13.1, P13.3
	chance := rand.New(rand.NewSource(1))
	for range 5000 {
		var rows []row
		for range chance.Intn(20) {
			rows = append(rows, someRow(chance))
		}
		got := xsort.Order(rows...)
		if want := counted(rows); !slices.Equal(got, want) {
			t.Fatalf("%+v: %v, want %v", rows, got, want)
		}
		sorted := slices.Sorted(slices.Values(got))
		for i, place := range sorted {
			if i != place {
				t.Fatalf("%+v: %v", rows, got)
			}
		}
	}
}

func TestOrderOfMany(t *testing.T) { // P13.3: stable, also of many
	chance := rand.New(rand.NewSource(2))
	for _, n := range []int{100, 1000, 20000} {
		rows := []row{{down(number("3")), word("c")}}
		for range n {
			rows = append(rows, row{number([]string{"1", "2", "3", "x"}[chance.Intn(4)]), word([]string{"a", "b", "c"}[chance.Intn(3)])})
		}
		got := xsort.Order(rows...)
		if len(got) != len(rows) {
			t.Fatal(len(got))
		}
		for i := range got[1:] {
			a, b := got[i], got[i+1]
			if less(rows[0], rows[b], rows[a]) || !less(rows[0], rows[a], rows[b]) && a >= b {
				t.Fatal(n, a, b)
			}
		}
		// What is ordered is ordered.
		var again []row
		for _, place := range got {
			again = append(again, row{down(rows[place][0]), rows[place][1]})
		}
		for i, place := range xsort.Order(again...) {
			if i != place {
				t.Fatal(n, i, place)
			}
		}
	}
}

func TestOrderOfRowsTurnedAbout(t *testing.T) { // P13.5
	chance := rand.New(rand.NewSource(3))
	for range 2000 {
		how := row{{Number: chance.Intn(2) == 0, Down: chance.Intn(2) == 0}, {Number: chance.Intn(2) == 0, Down: chance.Intn(2) == 0}}
		var rows []row
		for range 1 + chance.Intn(15) {
			r := row{someKey(chance, how[0]), someKey(chance, how[1])}
			rows = append(rows, r)
		}
		other := slices.Clone(rows)
		chance.Shuffle(len(other), func(i, j int) { other[i], other[j] = other[j], other[i] })
		a, b := xsort.Order(rows...), xsort.Order(other...)
		for i := range a {
			x, y := rows[a[i]], other[b[i]]
			if less(how, x, y) || less(how, y, x) {
				t.Fatalf("%+v, %+v: %v, %v", rows, other, a, b)
			}
		}
	}
}

func someKey(chance *rand.Rand, how xsort.Key) xsort.Key {
	how.Text = []string{"", "a", "b", "c"}[chance.Intn(4)]
	how.Num = api.Num{V: int64(chance.Intn(3))}
	return how
}

func TestOrderLeavesRows(t *testing.T) { // P3
	row0 := append(make(row, 0, 4), word("b"), word("x"))
	row0[:3][2] = word("spare")
	rows := append(make([]row, 0, 4), row0, row{word("a")}, nil)
	rows[:4][3] = row{word("spare")}
	got := xsort.Order(rows...)
	got[0] = 7
	order(t, rows, 2, 1, 0)
	want := []row{{word("b"), word("x")}, {word("a")}, nil, {word("spare")}}
	if !reflect.DeepEqual(rows[:4], want) || row0[:3][2] != word("spare") {
		t.Error("rows have changed", rows)
	}
}

func TestOrderOfOddNumbers(t *testing.T) { // P1: also numbers that are not right
	chance := rand.New(rand.NewSource(4))
	odd := []api.Num{{Kind: 7, V: 5}, {Kind: -1, V: -5}, {V: math.MaxInt64}, {V: math.MinInt64}, {Kind: api.NaN, V: 3}, {Kind: api.PlusInf, V: -1}, {Kind: math.MinInt}, {Kind: math.MaxInt}}
	for range 500 {
		var rows []row
		for range 1 + chance.Intn(40) {
			rows = append(rows, row{{Number: true, Num: odd[chance.Intn(len(odd))]}})
		}
		got := xsort.Order(rows...)
		slices.Sort(got)
		for i, place := range got {
			if i != place || len(got) != len(rows) {
				t.Fatal(rows, got)
			}
		}
	}
}
