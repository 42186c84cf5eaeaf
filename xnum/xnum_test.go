package xnum_test

import (
	"math"
	"math/big"
	"math/rand"
	"strings"
	"testing"

	"stencil/api"
	"stencil/xnum"
)

var (
	nan   = api.Num{Kind: api.NaN}
	plus  = api.Num{Kind: api.PlusInf}
	minus = api.Num{Kind: api.MinusInf}
)

func fin(v int64) api.Num { return api.Num{V: v} }

func num(s string) api.Num {
	switch s {
	case "Infinity":
		return plus
	case "-Infinity":
		return minus
	}
	return xnum.Parse(s)
}

// rightNumbers are right ones: the edges, and others of all sizes.
func rightNumbers() []api.Num {
	l := []api.Num{nan, plus, minus}
	for _, v := range []int64{0, 1, 2, 499999, 500000, 500001, 999999, 1000000, 1000001, 1500000, 2500000, 3000000,
		1000000000, 1000000001, 1e12, 1e15, api.MaxNum - 1e6, api.MaxNum - 1, api.MaxNum, api.MaxNum/2 + 1} {
		l = append(l, fin(v), fin(-v))
	}
	chance := rand.New(rand.NewSource(2))
	for range 60 {
		v := chance.Int63n(api.MaxNum) >> chance.Intn(60)
		l = append(l, fin(v), fin(-v))
	}
	return l
}

// wrongNumbers are not right.
func wrongNumbers() []api.Num {
	return []api.Num{fin(math.MinInt64), fin(math.MaxInt64), fin(api.MaxNum + 1), fin(-api.MaxNum - 1), {Kind: api.NaN, V: 1},
		{Kind: api.PlusInf, V: -1}, {Kind: api.MinusInf, V: math.MinInt64}, {Kind: -1}, {Kind: 4}, {Kind: math.MaxInt, V: math.MinInt64}}
}

// fromBig is a number of millionths, infinite if they are too many.
func fromBig(n *big.Int) api.Num {
	if most := big.NewInt(api.MaxNum); n.CmpAbs(most) > 0 {
		if n.Sign() < 0 {
			return minus
		}
		return plus
	}
	return fin(n.Int64())
}

func bigs(a, b api.Num) (x, y *big.Int) { return big.NewInt(a.V), big.NewInt(b.V) }

func TestReckonFinite(t *testing.T) { // P2.1: held against whole numbers of any size
	million := big.NewInt(api.Places)
	for _, a := range rightNumbers() {
		for _, b := range rightNumbers() {
			if a.Kind != api.Fin || b.Kind != api.Fin {
				continue
			}
			x, y := bigs(a, b)
			want(t, "Add", a, b, xnum.Add(a, b), fromBig(new(big.Int).Add(x, y)))
			want(t, "Sub", a, b, xnum.Sub(a, b), fromBig(new(big.Int).Sub(x, y)))
			z := new(big.Int).Mul(x, y)
			want(t, "Mul", a, b, xnum.Mul(a, b), fromBig(z.Quo(z, million)))
			if b.V == 0 {
				continue
			}
			z = new(big.Int).Mul(x, million)
			want(t, "Div", a, b, xnum.Div(a, b), fromBig(z.Quo(z, y)))
			want(t, "Mod", a, b, xnum.Mod(a, b), fromBig(new(big.Int).Rem(x, y)))
		}
	}
}

func want(t *testing.T, what string, a, b, got, want api.Num) {
	t.Helper()
	if got != want {
		t.Errorf("%s(%v, %v): %v, not %v", what, a, b, got, want)
	}
}

func TestReckonOthers(t *testing.T) { // P2.1
	for _, x := range []struct {
		f            func(a, b api.Num) api.Num
		what         string
		a, b, answer string
	}{
		{xnum.Add, "Add", "Infinity", "-Infinity", "NaN"}, {xnum.Add, "Add", "-Infinity", "Infinity", "NaN"},
		{xnum.Add, "Add", "Infinity", "Infinity", "Infinity"}, {xnum.Add, "Add", "-Infinity", "-Infinity", "-Infinity"},
		{xnum.Add, "Add", "Infinity", "-5", "Infinity"}, {xnum.Add, "Add", "5", "-Infinity", "-Infinity"},
		{xnum.Add, "Add", "1000000000000", "0.000001", "Infinity"}, {xnum.Add, "Add", "-1000000000000", "-0.000001", "-Infinity"},
		{xnum.Add, "Add", "1000000000000", "-0.000001", "999999999999.999999"},
		{xnum.Sub, "Sub", "Infinity", "Infinity", "NaN"}, {xnum.Sub, "Sub", "Infinity", "-Infinity", "Infinity"},
		{xnum.Sub, "Sub", "1", "Infinity", "-Infinity"}, {xnum.Sub, "Sub", "-1", "-Infinity", "Infinity"},
		{xnum.Mul, "Mul", "Infinity", "0", "NaN"}, {xnum.Mul, "Mul", "0", "-Infinity", "NaN"},
		{xnum.Mul, "Mul", "Infinity", "-2", "-Infinity"}, {xnum.Mul, "Mul", "-0.5", "-Infinity", "Infinity"},
		{xnum.Mul, "Mul", "-Infinity", "Infinity", "-Infinity"}, {xnum.Mul, "Mul", "-Infinity", "-Infinity", "Infinity"},
		{xnum.Mul, "Mul", "1000000", "1000000", "1000000000000"}, {xnum.Mul, "Mul", "1000000", "1000000.000001", "Infinity"},
		{xnum.Mul, "Mul", "-1000001", "1000000", "-Infinity"}, {xnum.Mul, "Mul", "0.001", "-0.0009", "0"},
		{xnum.Mul, "Mul", "1.000001", "1.000001", "1.000002"}, {xnum.Mul, "Mul", "-1.000001", "1.000001", "-1.000002"},
		{xnum.Div, "Div", "Infinity", "Infinity", "NaN"}, {xnum.Div, "Div", "-Infinity", "Infinity", "NaN"},
		{xnum.Div, "Div", "Infinity", "0", "Infinity"}, {xnum.Div, "Div", "-Infinity", "0", "-Infinity"},
		{xnum.Div, "Div", "Infinity", "-3", "-Infinity"}, {xnum.Div, "Div", "-Infinity", "-3", "Infinity"},
		{xnum.Div, "Div", "3", "Infinity", "0"}, {xnum.Div, "Div", "-3", "-Infinity", "0"}, {xnum.Div, "Div", "0", "Infinity", "0"},
		{xnum.Div, "Div", "0", "0", "NaN"}, {xnum.Div, "Div", "2", "0", "Infinity"}, {xnum.Div, "Div", "-2", "0", "-Infinity"},
		{xnum.Div, "Div", "1", "3", "0.333333"}, {xnum.Div, "Div", "-2", "3", "-0.666666"}, {xnum.Div, "Div", "0", "-3", "0"},
		{xnum.Div, "Div", "1000000000000", "0.999999", "Infinity"}, {xnum.Div, "Div", "1000000", "-0.000001", "-1000000000000"},
		{xnum.Mod, "Mod", "Infinity", "2", "NaN"}, {xnum.Mod, "Mod", "-Infinity", "Infinity", "NaN"}, {xnum.Mod, "Mod", "5", "0", "NaN"},
		{xnum.Mod, "Mod", "Infinity", "0", "NaN"}, {xnum.Mod, "Mod", "0", "0", "NaN"},
		{xnum.Mod, "Mod", "-5.5", "Infinity", "-5.5"}, {xnum.Mod, "Mod", "5.5", "-Infinity", "5.5"},
		{xnum.Mod, "Mod", "-5", "3", "-2"}, {xnum.Mod, "Mod", "5", "-3", "2"}, {xnum.Mod, "Mod", "-5", "-3", "-2"},
		{xnum.Mod, "Mod", "1.5", "0.4", "0.3"}, {xnum.Mod, "Mod", "6", "3", "0"}, {xnum.Mod, "Mod", "-6", "3", "0"},
	} {
		want(t, x.what, num(x.a), num(x.b), x.f(num(x.a), num(x.b)), num(x.answer))
	}
}

func TestReckonNaN(t *testing.T) { // P2.1
	for _, f := range []func(a, b api.Num) api.Num{xnum.Add, xnum.Sub, xnum.Mul, xnum.Div, xnum.Mod} {
		for _, a := range rightNumbers() {
			want(t, "NaN", a, nan, f(a, nan), nan)
			want(t, "NaN", nan, a, f(nan, a), nan)
		}
	}
}

func TestNeg(t *testing.T) { // P2.1
	for a, b := range map[api.Num]api.Num{nan: nan, plus: minus, minus: plus, fin(0): fin(0), fin(5): fin(-5),
		fin(-api.MaxNum): fin(api.MaxNum), fin(api.MaxNum): fin(-api.MaxNum)} {
		want(t, "Neg", a, a, xnum.Neg(a), b)
	}
}

func TestWhole(t *testing.T) { // P2.2
	for _, x := range [][4]string{ // the number, Floor, Ceiling, Round
		{"NaN", "NaN", "NaN", "NaN"}, {"Infinity", "Infinity", "Infinity", "Infinity"}, {"-Infinity", "-Infinity", "-Infinity", "-Infinity"},
		{"0", "0", "0", "0"}, {"3", "3", "3", "3"}, {"-3", "-3", "-3", "-3"},
		{"0.1", "0", "1", "0"}, {"-0.1", "-1", "0", "0"}, {"0.5", "0", "1", "1"}, {"-0.5", "-1", "0", "0"},
		{"2.5", "2", "3", "3"}, {"-2.5", "-3", "-2", "-2"}, {"-2.500001", "-3", "-2", "-3"}, {"2.499999", "2", "3", "2"},
		{"999999999999.5", "999999999999", "1000000000000", "1000000000000"},
		{"-999999999999.500001", "-1000000000000", "-999999999999", "-1000000000000"},
		{"1000000000000", "1000000000000", "1000000000000", "1000000000000"},
		{"-1000000000000", "-1000000000000", "-1000000000000", "-1000000000000"},
	} {
		a := num(x[0])
		want(t, "Floor", a, a, xnum.Floor(a), num(x[1]))
		want(t, "Ceiling", a, a, xnum.Ceiling(a), num(x[2]))
		want(t, "Round", a, a, xnum.Round(a), num(x[3]))
	}
}

func TestInt(t *testing.T) { // P2.2
	for n, a := range map[int]api.Num{0: fin(0), 1: fin(1e6), -7: fin(-7e6), 1e12: fin(api.MaxNum), -1e12: fin(-api.MaxNum),
		1e12 + 1: plus, -1e12 - 1: minus, math.MaxInt: plus, math.MinInt: minus, 1 << 62: plus} {
		if got := xnum.Int(n); got != a {
			t.Errorf("%d: %v", n, got)
		}
	}
}

// place is where a number stands among others, by halves, so that the infinite ones are beyond all.
func place(a api.Num) int64 {
	switch a.Kind {
	case api.PlusInf:
		return math.MaxInt64
	case api.MinusInf:
		return math.MinInt64
	}
	return a.V
}

func TestCompare(t *testing.T) { // P2.2
	for _, a := range rightNumbers() {
		for _, b := range rightNumbers() {
			order, ok := xnum.Compare(a, b)
			less := xnum.Less(a, b)
			if a == nan || b == nan {
				if ok || order != 0 || less != (a == nan && b != nan) {
					t.Errorf("%v %v: %v %v %v", a, b, order, ok, less)
				}
				continue
			}
			if !ok || (order < 0) != (place(a) < place(b)) || (order > 0) != (place(a) > place(b)) || less != (order < 0) {
				t.Errorf("%v %v: %v %v %v", a, b, order, ok, less)
			}
		}
	}
}

func TestParse(t *testing.T) { // P2.3
	for s, a := range map[string]api.Num{
		"0": fin(0), "1": fin(1e6), "-1": fin(-1e6), "-0": fin(0), "007.50": fin(7500000), "1.": fin(1e6), ".25": fin(250000), "-.5": fin(-500000),
		"-5.": fin(-5e6), " \t\r\n12 \n": fin(12e6), "0.0000019": fin(1), "-0.0000019": fin(-1), "0.0000009": fin(0), "1.9999999": fin(1999999),
		"1000000000000": fin(api.MaxNum), "1000000000000.0000009": fin(api.MaxNum), "1000000000000.000001": plus, "-1000000000000.000001": minus,
		"-1000000000000": fin(-api.MaxNum), "18446744073709551616": plus, "-99999999999999999999999999": minus,
		strings.Repeat("0", 99) + "1." + strings.Repeat("0", 99): fin(1e6), strings.Repeat("9", 999): plus,
		"": nan, " ": nan, "-": nan, ".": nan, "-.": nan, "+1": nan, "--1": nan, "- 1": nan, "1 2": nan, "1.2.3": nan, "1..": nan, "1e3": nan,
		"0x1": nan, "x": nan, "1x": nan, strings.Repeat("9", 99) + "x": nan, "1.2345678x": nan, "NaN": nan, "Infinity": nan, "-Infinity": nan,
		"١": nan, "\u00a01": nan, "1\v": nan, "1\x00": nan, "\xff": nan, "1\xff": nan, "1,000": nan, "1-": nan, "1.-5": nan, "−1": nan,
	} {
		if got := xnum.Parse(s); got != a {
			t.Errorf("%.40q: %v, not %v", s, got, a)
		}
	}
}

func TestText(t *testing.T) { // P2.3
	for a, s := range map[api.Num]string{nan: "NaN", plus: "Infinity", minus: "-Infinity", fin(0): "0", fin(1200000): "1.2", fin(1): "0.000001",
		fin(-1): "-0.000001", fin(-10): "-0.00001", fin(100000000): "100", fin(-1e6): "-1", fin(1000001): "1.000001", fin(-500000): "-0.5",
		fin(api.MaxNum): "1000000000000", fin(-api.MaxNum): "-1000000000000", fin(api.MaxNum - 1): "999999999999.999999"} {
		if got := xnum.Text(a); got != s {
			t.Errorf("%v: %q, not %q", a, got, s)
		}
	}
}

func TestRight(t *testing.T) { // P2.3
	for _, a := range rightNumbers() {
		if !xnum.Right(a) {
			t.Errorf("%v is right", a)
		}
	}
	for _, a := range wrongNumbers() {
		if xnum.Right(a) {
			t.Errorf("%v is not right", a)
		}
	}
}

func TestTextThereAndBack(t *testing.T) { // P2.5
	for _, a := range rightNumbers() {
		back := xnum.Parse(xnum.Text(a))
		// Text's words for infinite numbers are none that Parse knows.
		if a.Kind == api.Fin && back != a || a.Kind != api.Fin && back != nan {
			t.Errorf("%v: %q %v", a, xnum.Text(a), back)
		}
	}
}

func TestOrderPlaysNoPart(t *testing.T) { // P2.6
	for _, a := range rightNumbers() {
		for _, b := range rightNumbers() {
			want(t, "Add", a, b, xnum.Add(a, b), xnum.Add(b, a))
			want(t, "Mul", a, b, xnum.Mul(a, b), xnum.Mul(b, a))
			if sum := xnum.Add(a, b); a.Kind == api.Fin && b.Kind == api.Fin && sum.Kind == api.Fin {
				want(t, "Sub of Add", a, b, xnum.Sub(sum, b), a)
			}
		}
	}
}

func TestDivAndMod(t *testing.T) { // P2.7
	for _, a := range rightNumbers() {
		for _, b := range rightNumbers() {
			ratio := xnum.Div(a, b)
			if a.Kind != api.Fin || b.Kind != api.Fin || ratio.Kind != api.Fin {
				continue
			}
			whole := xnum.Floor(ratio)
			if ratio.V < 0 {
				whole = xnum.Ceiling(ratio)
			}
			want(t, "Div and Mod", a, b, xnum.Add(xnum.Mul(whole, b), xnum.Mod(a, b)), a)
		}
	}
}

func TestFloorAndCeiling(t *testing.T) { // P2.8
	for _, a := range rightNumbers() {
		if a.Kind != api.Fin {
			continue
		}
		low, high := xnum.Floor(a), xnum.Ceiling(a)
		if a.V%api.Places == 0 && (low != a || high != a) || a.V%api.Places != 0 && high.V-low.V != api.Places {
			t.Errorf("%v: %v %v", a, low, high)
		}
		if low.V > a.V || high.V < a.V || low.V%api.Places != 0 || high.V%api.Places != 0 {
			t.Errorf("%v: %v %v", a, low, high)
		}
	}
}

func TestAnyNumbers(t *testing.T) { // P1: calls end, of numbers that are not right too; right ones come to right ones
	right := len(rightNumbers())
	all := append(rightNumbers(), wrongNumbers()...)
	for i, a := range all {
		one := []api.Num{xnum.Neg(a), xnum.Floor(a), xnum.Ceiling(a), xnum.Round(a), xnum.Parse(xnum.Text(a))}
		for _, picture := range []string{"#,##0.00", "0%", "#", "x"} {
			xnum.Format(a, picture)
		}
		for j, b := range all {
			xnum.Compare(a, b)
			xnum.Less(a, b)
			two := []api.Num{xnum.Add(a, b), xnum.Sub(a, b), xnum.Mul(a, b), xnum.Div(a, b), xnum.Mod(a, b)}
			for _, c := range append(two, one...) {
				if i < right && j < right && !xnum.Right(c) {
					t.Errorf("%v %v: %v", a, b, c)
				}
			}
		}
	}
}

func TestAnyTexts(t *testing.T) { // P1, P2, P6: calls end at texts of any bytes, answer the same again, and nothing beside an error
	chance := rand.New(rand.NewSource(4))
	pieces := []string{"#", "0", ",", ".", ";", "%", "-", "1", "9", " ", "\xff", "\xe2\x82", "é", "\x00"}
	for range 5000 {
		s := ""
		for range chance.Intn(9) {
			s += pieces[chance.Intn(len(pieces))]
		}
		a := xnum.Parse(s)
		if !xnum.Right(a) || xnum.Parse(s) != a {
			t.Errorf("%q: %v", s, a)
		}
		text, e := xnum.Format(a, s)
		if again, f := xnum.Format(a, s); again != text || f != e || e != api.OK && (text != "" || e != api.ErrMark) {
			t.Errorf("%q: %q %v", s, text, e)
		}
	}
}
