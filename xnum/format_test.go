package xnum_test

import (
	"math/big"
	"math/rand"
	"regexp"
	"strings"
	"testing"

	"stencil/api"
	"stencil/xnum"
)

func TestFormat(t *testing.T) { // P2.4
	for _, x := range [][3]string{
		{"1234.567", "#,##0.00", "1,234.57"}, {"-0.5", "0%;(0)", "(50)"}, {"0.5", "0%", "50%"}, {"-1", "00", "-01"}, {"0", "#.##", ""},
		{"NaN", "a0b%", "NaN"}, {"Infinity", "a0b", "aInfinityb"}, {"-Infinity", "a0b", "-aInfinityb"}, {"-Infinity", "a0b;c#d", "cInfinityd"},
		{"Infinity", "0%", "Infinity%"}, {"-1", "$0", "-$1"}, {"-1.25", "0.0;<#>", "<1.3>"}, {"-1", "#;#%", "1%"}, {"1", "#;#%", "1"},
		{"-0.25", "0%;(0%)", "(25%)"}, {"-0.4", "0", "-0"}, {"-0.4", "#", "-"}, {"0.4", "#", ""}, {"0.5", "#", "1"}, {"-0.5", "#", "-1"},
		{"0.5", "#.#", ".5"}, {"0.96", "#.#", "1"}, {"0.96", "#.0", "1.0"}, {"0.04", "#.0", ".0"}, {"5", "0.", "5"}, {"5", ".0", "5.0"},
		{"0", ".#", ""}, {"0", "0.#", "0"}, {"0", "#.0#", ".0"}, {"1.5", "0.000", "1.500"}, {"1.5", "0.0##", "1.5"}, {"1.2345", "0.0##", "1.235"},
		{"1.123456", "0.00000000##", "1.12345600"}, {"1.123456", "0.########", "1.123456"}, {"1.1", "0.000000", "1.100000"},
		{"5", "0,000", "0,005"}, {"1234567", "0,0", "1,2,3,4,5,6,7"}, {"1234567", "#,##,#00", "1,234,567"}, {"123", "#,###", "123"},
		{"1234", "#,####", "1234"}, {"12345", "#,####.0", "1,2345.0"}, {"999.995", "#,##0.00", "1,000.00"}, {"0", "0,00", "0,00"}, {"0", "#,##", ""},
		{"1000000000000", "#,##0", "1,000,000,000,000"}, {"1000000000000", "0%", "Infinity%"}, {"10000000000", "0%", "1000000000000%"},
		{"10000000000.000001", "0%", "Infinity%"}, {"-10000000000.000001", "0%", "-Infinity%"}, {"-10000000000.000001", "0%;n0", "nInfinity"},
		{"0.005", "0%", "1%"}, {"0.004999", "0%", "0%"}, {"0.12345", "0.0#%", "12.35%"}, {"3", "é-'x'0 €", "é-'x'3 €"}, {"-3", "-0", "--3"},
		{"999999999999.9", "0", "1000000000000"}, {"7", "0" + strings.Repeat("0", 30), strings.Repeat("0", 30) + "7"},
	} {
		if s, e := xnum.Format(num(x[0]), x[1]); s != x[2] || e != api.OK {
			t.Errorf("%s by %s: %q %v, not %q", x[0], x[1], s, e, x[2])
		}
	}
}

func TestFormatWrong(t *testing.T) { // P2.4: pictures that are none
	for _, p := range []string{"", ";", "a", "%", "0#", "#0#", ".#0", "0.#0", ",0", "0,", "0,.0", "0,,0", "0.0,0", ".", "0..0", "0.0.0", "0 0", "0a#", "0a,",
		"0a.", "%0", "a%0", "0%%", "0;", ";0", "0;0;0", "0;0#", "0;a", "0;%0", "0;0%%", "0#;0", "0;,0", ",", "#,", "a,0", "0\xff", "\xff0", "0;0\xff"} {
		for _, a := range []api.Num{nan, plus, fin(0), fin(-1e6)} {
			if s, e := xnum.Format(a, p); s != "" || e != api.ErrMark {
				t.Errorf("%q: %q %v", p, s, e)
			}
		}
	}
}

// half is one part of a picture: the head; ahead of the point, and behind it; the tail.
const half = `([^#0,.;%]*)(#(?:,?#)*(?:,?0)*|0(?:,?0)*|)(|\.0*#*)([^#0,.;%]*%?[^#0,.;%]*)`

var (
	oneHalf = regexp.MustCompile(`^` + half + `$`)
	twoHalf = regexp.MustCompile(`^` + half + `;` + half + `$`)
)

// bodies: a body has at least one # or 0.
func bodies(m []string) bool {
	for i := 0; m != nil && i+4 < len(m); i += 4 {
		if !strings.ContainsAny(m[i+2]+m[i+3], "#0") {
			return false
		}
	}
	return m != nil
}

func TestFormatPictures(t *testing.T) { // P2.4: all short pictures, told by another rule
	numbers := []api.Num{nan, plus, minus, fin(0), fin(400000), fin(-400000), fin(1234567890), fin(-99999999), fin(api.MaxNum)}
	all := []string{""}
	for range 6 {
		var longer []string
		for _, p := range all {
			check(t, p, numbers)
			for _, c := range "#0,.;%a" {
				longer = append(longer, p+string(c))
			}
		}
		all = longer
	}
}

func TestFormatChance(t *testing.T) { // P2.4: longer pictures, other numbers
	chance := rand.New(rand.NewSource(3))
	pick := func(least int, l ...string) (s string) {
		for range least + chance.Intn(4) {
			s += l[chance.Intn(len(l))]
		}
		return s
	}
	for range 5000 {
		picture := ""
		for range 1 + chance.Intn(2) {
			picture += ";" + pick(0, "a", "é", "-") + pick(0, "#", "#,#", "##") + pick(1, "0", "00") + "." + pick(0, "0") + pick(0, "#", "##") + pick(0, "b", "€", "%")
		}
		v := chance.Int63n(api.MaxNum) >> chance.Intn(60)
		check(t, picture[1:], []api.Num{fin(v), fin(-v)})
	}
}

func check(t *testing.T, picture string, numbers []api.Num) {
	t.Helper()
	m := oneHalf.FindStringSubmatch(picture)
	if m == nil {
		m = twoHalf.FindStringSubmatch(picture)
	}
	for _, a := range numbers {
		s, e := xnum.Format(a, picture)
		if !bodies(m) {
			if s != "" || e != api.ErrMark {
				t.Fatalf("%q of %v: %q %v", picture, a, s, e)
			}
			continue
		}
		if told := model(a, m[1:]); s != told || e != api.OK {
			t.Fatalf("%q of %v: %q %v, not %q", picture, a, s, e, told)
		}
	}
}

// model writes a number by a picture's parts, with fractions of any size.
func model(a api.Num, m []string) string {
	if a.Kind == api.NaN {
		return "NaN"
	}
	head, tail := m[0], m[3]
	if a.Kind == api.MinusInf || a.V < 0 {
		if len(m) > 4 {
			head, tail = m[4], m[7]
		} else {
			head = "-" + head
		}
	}
	value := big.NewRat(a.V, api.Places)
	value.Abs(value)
	if strings.Contains(m[3], "%") {
		value.Mul(value, big.NewRat(100, 1))
	}
	if a.Kind != api.Fin || value.Cmp(big.NewRat(api.MaxNum/api.Places, 1)) > 0 {
		return head + "Infinity" + tail
	}
	signs := strings.TrimPrefix(m[2], ".")
	// FloatString rounds as the document asks: of two the greater size.
	whole, rest, _ := strings.Cut(value.FloatString(len(signs)), ".")
	for len(rest) > strings.Count(signs, "0") && strings.HasSuffix(rest, "0") {
		rest = rest[:len(rest)-1]
	}
	whole = strings.TrimLeft(whole, "0")
	for len(whole) < strings.Count(m[1], "0") {
		whole = "0" + whole
	}
	if i := strings.LastIndex(m[1], ","); i >= 0 {
		size := len(m[1]) - i - 1
		for at := len(whole) - size; at > 0; at -= size {
			whole = whole[:at] + "," + whole[at:]
		}
	}
	if rest != "" {
		rest = "." + rest
	}
	return head + whole + rest + tail
}
