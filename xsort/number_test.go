package xsort_test

import (
	"math"
	"math/rand"
	"strconv"
	"strings"
	"testing"

	"stencil/api"
	"stencil/xsort"
)

const most = 1000000000 // that is read

func formats() []string { return []string{"1", "01", "001", "0000000001", "a", "A", "i", "I"} }

func noFormats() []string {
	return []string{"", "0", "00", "2", "11", "10", "010", "101", "1 ", " 1", " 01", "-1", "+1", "1.", "1,1", "b", "B", "aa", "AA", "ai", "ia", "ii", "II", "iI", "x", "1a", "a1", "0a", "0i", "a ", "\x00", "\xff", "1\x00", "０1", "１", "а", "é", "ı", "İ", "1\n", "0 1", strings.Repeat("0", 100000), strings.Repeat("1", 100000)}
}

func TestFormat(t *testing.T) { // P13.2
	for _, x := range []struct {
		n            int
		format, want string
	}{
		{1, "1", "1"}, {9, "1", "9"}, {10, "1", "10"}, {1234567, "1", "1234567"}, {math.MaxInt, "1", "9223372036854775807"},
		{1, "01", "01"}, {7, "01", "07"}, {99, "01", "99"}, {100, "01", "100"}, {7, "001", "007"}, {70, "001", "070"}, {700, "001", "700"}, {7000, "001", "7000"},
		{1, "00000000000000000000001", "00000000000000000000001"}, {math.MaxInt, "00000000000000000000001", "00009223372036854775807"},
		{1, "a", "a"}, {2, "a", "b"}, {26, "a", "z"}, {27, "a", "aa"}, {28, "a", "ab"}, {52, "a", "az"}, {53, "a", "ba"}, {702, "a", "zz"}, {703, "a", "aaa"}, {18278, "a", "zzz"}, {18279, "a", "aaaa"},
		{1, "A", "A"}, {26, "A", "Z"}, {27, "A", "AA"}, {703, "A", "AAA"}, {most, "A", "CFDGSXL"}, {most, "a", "cfdgsxl"}, {math.MaxInt, "a", "crpxnlskvljfhg"}, {math.MaxInt, "A", "CRPXNLSKVLJFHG"},
		{1, "i", "i"}, {4, "i", "iv"}, {9, "i", "ix"}, {14, "i", "xiv"}, {40, "i", "xl"}, {90, "i", "xc"}, {400, "i", "cd"}, {900, "i", "cm"}, {1994, "i", "mcmxciv"}, {3888, "i", "mmmdccclxxxviii"}, {3999, "i", "mmmcmxcix"},
		{4000, "i", "4000"}, {math.MaxInt, "i", "9223372036854775807"}, {1, "I", "I"}, {1994, "I", "MCMXCIV"}, {3999, "I", "MMMCMXCIX"}, {4000, "I", "4000"}, {most, "I", "1000000000"},
	} {
		if s, e := xsort.Format(x.n, x.format); s != x.want || e != api.OK {
			t.Errorf("%d in %.30q: %.50q, %d, want %q", x.n, x.format, s, e, x.want)
		}
	}
	long := strings.Repeat("0", 1<<20) + "1"
	if s, e := xsort.Format(42, long); s != long[:1<<20-1]+"42" || e != api.OK {
		t.Error(len(s), e)
	}
}

func TestFormatErrors(t *testing.T) { // P13.2: ErrMark, and behind it ErrRange
	for _, n := range []int{1, 0, -1, 5000, math.MaxInt, math.MinInt} {
		for _, f := range noFormats() {
			if s, e := xsort.Format(n, f); s != "" || e != api.ErrMark {
				t.Errorf("%d in %.30q: %.50q, %d", n, f, s, e)
			}
		}
	}
	for _, n := range []int{0, -1, -26, -4000, math.MinInt, math.MinInt + 1} {
		for _, f := range formats() {
			if s, e := xsort.Format(n, f); s != "" || e != api.ErrRange {
				t.Errorf("%d in %q: %q, %d", n, f, s, e)
			}
		}
	}
}

func TestRoman(t *testing.T) { // P13.2: each place has its own signs
	places := [4][]string{
		{"", "M", "MM", "MMM"},
		{"", "C", "CC", "CCC", "CD", "D", "DC", "DCC", "DCCC", "CM"},
		{"", "X", "XX", "XXX", "XL", "L", "LX", "LXX", "LXXX", "XC"},
		{"", "I", "II", "III", "IV", "V", "VI", "VII", "VIII", "IX"},
	}
	for n := 1; n <= 3999; n++ {
		want := places[0][n/1000] + places[1][n/100%10] + places[2][n/10%10] + places[3][n%10]
		small, e := xsort.Format(n, "i")
		great, f := xsort.Format(n, "I")
		if got := xsort.Roman(n); got != want || small != strings.ToLower(want) || great != want || e != api.OK || f != api.OK {
			t.Fatal(n, got, small, great, e, f)
		}
	}
	for _, n := range []int{0, -1, -4, 4000, 4001, 5000, math.MaxInt, math.MinInt} {
		if s := xsort.Roman(n); s != "" {
			t.Error(n, s)
		}
	}
}

// behind is the text of letters that is next.
func behind(s string) string {
	head, ok := strings.CutSuffix(s, "z")
	switch {
	case !ok && s != "":
		return s[:len(s)-1] + string(s[len(s)-1]+1)
	case head == "":
		return strings.Repeat("a", len(s)+1)
	}
	return behind(head) + "a"
}

func TestLetters(t *testing.T) { // P13.2: a to z, aa, ab, and so on
	want := ""
	for n := 1; n <= 500000; n++ {
		want = behind(want)
		if got := xsort.Letters(n); got != want {
			t.Fatal(n, got, want)
		}
	}
	for _, n := range []int{0, -1, -26, -27, math.MinInt} {
		if s := xsort.Letters(n); s != "" {
			t.Error(n, s)
		}
	}
	if s := xsort.Letters(math.MaxInt); s != "crpxnlskvljfhg" {
		t.Error(s)
	}
}

func TestRead(t *testing.T) { // P13.2
	for _, x := range []struct {
		s, format string
		want      int
	}{
		{"1", "1", 1}, {"10", "1", 10}, {"1000000000", "1", most}, {"999999999", "1", most - 1}, {"07", "01", 7}, {"99", "01", 99}, {"100", "01", 100}, {"1000000000", "01", most},
		{"0000000001", "0000000001", 1}, {"1000000000", "0000000001", most}, {"00001000000000", "00000000000001", most}, {"00000000000000000000000042", "00000000000000000000000001", 42},
		{"a", "a", 1}, {"z", "a", 26}, {"aa", "a", 27}, {"i", "a", 9}, {"iv", "a", 256}, {"cfdgsxl", "a", most}, {"cfdgsxk", "a", most - 1}, {"Z", "A", 26}, {"I", "A", 9}, {"CFDGSXL", "A", most},
		{"i", "i", 1}, {"iv", "i", 4}, {"mmmcmxcix", "i", 3999}, {"mmmdccclxxxviii", "i", 3888}, {"4000", "i", 4000}, {"1000000000", "i", most}, {"I", "I", 1}, {"MMMDCCCLXXXVIII", "I", 3888}, {"4000", "I", 4000}, {"c", "i", 100}, {"c", "a", 3},
	} {
		if n, e := xsort.Read(x.s, x.format); n != x.want || e != api.OK {
			t.Errorf("%q in %q: %d, %d, want %d", x.s, x.format, n, e, x.want)
		}
	}
}

func TestReadErrors(t *testing.T) { // P13.2: ErrMark, and behind it ErrForm
	for _, f := range noFormats() {
		for _, s := range []string{"", "1", "a", "i", "x y", f} {
			if n, e := xsort.Read(s, f); n != 0 || e != api.ErrMark {
				t.Errorf("%.30q in %.30q: %d, %d", s, f, n, e)
			}
		}
	}
	nowhere := []string{"", "0", "00", "-1", "+1", "1.0", "1e3", "0x1", "1_0", " 1", "1 ", "1\n", "\x00", "\xff", "a\xff", "１", "é", "aA", "Aa", "iV", "Iv", "i v", "a1", "1a", "-", "1000000001", "01000000001", "9223372036854775807", "9223372036854775808", "99999999999999999999", "cfdgsxm", "CFDGSXM", "zzzzzzz", "zzzzzzzz", "aaaaaaaa", "AAAAAAAAAAAAAAAA", "ı", "\u212a", "\u017f", "ſ", "Ａ"}
	nowhere = append(nowhere, strings.Repeat("a", 1<<20), strings.Repeat("9", 1<<20), strings.Repeat("m", 1<<20), strings.Repeat("0", 1<<20)+"1", strings.Repeat("0", 1<<20))
	for _, f := range formats() {
		for _, s := range nowhere {
			if n, e := xsort.Read(s, f); n != 0 || e != api.ErrForm {
				t.Errorf("%.30q in %q: %d, %d", s, f, n, e)
			}
		}
	}
	for format, texts := range map[string]string{
		"1":          "01 001 a A i I iv",
		"01":         "1 9 001 007 0100 a i",
		"0000000001": "1 000000001 00000000001 01000000000 a",
		"a":          "1 A AA 27 4000",
		"A":          "1 a aa 27",
		"i":          "1 12 3999 04000 0004 iiii I IV iix vx vv ic il xm id mmmm mmmmm ivi ixi xcx iviv vi2 a z im xd lc ld dm cmc cdc cmcm xlx vix mmmcmxcixi mmmdccclxxxviiii",
		"I":          "1 12 3999 IIII i iv VX VV IC MMMM IXI A Z",
	} {
		for _, s := range strings.Fields(texts) {
			if n, e := xsort.Read(s, format); n != 0 || e != api.ErrForm {
				t.Errorf("%q in %q: %d, %d", s, format, n, e)
			}
		}
	}
}

func TestReadOfFormat(t *testing.T) { // P13.4
	there := func(n int) {
		for _, f := range formats() {
			s, e := xsort.Format(n, f)
			if back, e2 := xsort.Read(s, f); back != n || e != api.OK || e2 != api.OK {
				t.Fatal(n, f, s, back, e, e2)
			}
		}
	}
	for n := 1; n < 20000; n++ {
		there(n)
		there(most + 1 - n)
	}
	chance := rand.New(rand.NewSource(1))
	for range 50000 {
		there(1 + chance.Intn(most))
	}
	for _, f := range formats() {
		for _, n := range []int{most + 1, most + 2, 2 * most, 8031810176 + 1, math.MaxInt} {
			s, _ := xsort.Format(n, f)
			if back, e := xsort.Read(s, f); back != 0 || e != api.ErrForm {
				t.Error(n, f, s, back, e)
			}
		}
	}
}

// shortTexts yields all texts of these signs, up to that many.
func shortTexts(signs string, longest int, yield func(string)) {
	yield("")
	if longest == 0 {
		return
	}
	for _, c := range signs {
		shortTexts(signs, longest-1, func(s string) { yield(string(c) + s) })
	}
}

func TestReadOfAllShortTexts(t *testing.T) { // P13.2: just what Format tells
	for format, x := range map[string]struct {
		signs   string
		longest int
	}{"1": {"0123-", 5}, "01": {"019a", 5}, "001": {"012", 6}, "a": {"abyzA", 4}, "A": {"ABYZa", 4}, "i": {"ivxlcdm", 6}, "I": {"IVXLi", 6}} {
		known := map[string]int{}
		for n := 1; n < 500000; n++ {
			s, _ := xsort.Format(n, format)
			known[s] = n
		}
		shortTexts(x.signs, x.longest, func(s string) {
			want, ok := known[s]
			n, e := xsort.Read(s, format)
			if n != want || ok != (e == api.OK) || !ok && e != api.ErrForm {
				t.Errorf("%q in %q: %d, %d, want %d", s, format, n, e, want)
			}
		})
	}
}

func TestReadOfAnyText(t *testing.T) { // P1, P13.2: texts of any bytes
	chance := rand.New(rand.NewSource(2))
	for range 200000 {
		b := make([]byte, chance.Intn(5))
		for i := range b {
			b[i] = byte(chance.Intn(256))
			if chance.Intn(2) == 0 {
				b[i] = "0123456789aAiIvVxXmM"[chance.Intn(20)]
			}
		}
		for _, f := range append(formats(), string(b)) {
			n, e := xsort.Read(string(b), f)
			switch {
			case e == api.OK:
				if s, e := xsort.Format(n, f); s != string(b) || e != api.OK || n < 1 || n > most {
					t.Fatal(b, f, n, s, e)
				}
			case n != 0, e != api.ErrForm && e != api.ErrMark:
				t.Fatal(b, f, n, e)
			}
		}
		if n, err := strconv.Atoi(string(b)); err == nil && n > 0 && b[0] != '0' && b[0] != '+' {
			if got, e := xsort.Read(string(b), "1"); got != n || e != api.OK {
				t.Fatal(b, got, e)
			}
		}
	}
}
