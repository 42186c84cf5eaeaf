package xchar_test

import (
	"bytes"
	"fmt"
	"math"
	"math/rand"
	"strings"
	"testing"
	"unicode/utf16"
	"unicode/utf8"

	"stencil/api"
	"stencil/xchar"
)

// ends are the first and the last character of each range, as the document lists them.
type ends [][2]rune

func (l ends) hold(r rune) bool {
	for _, x := range l {
		if x[0] <= r && r <= x[1] {
			return true
		}
	}
	return false
}

var (
	chars  = ends{{9, 9}, {10, 10}, {13, 13}, {32, 0xd7ff}, {0xe000, 0xfffd}, {0x10000, 0x10ffff}}
	blanks = ends{{9, 10}, {13, 13}, {32, 32}}
	begin  = ends{{65, 90}, {97, 122}, {95, 95}, {0xc0, 0xd6}, {0xd8, 0xf6}, {0xf8, 0x2ff}, {0x370, 0x37d},
		{0x37f, 0x1fff}, {0x200c, 0x200d}, {0x2070, 0x218f}, {0x2c00, 0x2fef}, {0x3001, 0xd7ff},
		{0xf900, 0xfdcf}, {0xfdf0, 0xfffd}, {0x10000, 0xeffff}}
	goOn = append(ends{{45, 46}, {48, 57}, {0xb7, 0xb7}, {0x300, 0x36f}, {0x203f, 0x2040}}, begin...)
)

// oddTexts are texts of any bytes.
func oddTexts() []string {
	l := []string{"", " ", "\x00", "\xff", "\xc0\x80", "\xed\xa0\x80", "\xf4\x90\x80\x80", "\xe2\x82", "a\xe2\x82b",
		"\uFFFD", "\uFFFE", "\uFFFF", "a:b", ":", "a:", ":a", "a:b:c", "\r", "\r\n", "\n\r", "\t a \r\n b ", "😀", "é-1",
		"\ufeffa", "\u2028", "\u00a0", strings.Repeat("x", api.MaxText), strings.Repeat("é", api.MaxText)}
	chance := rand.New(rand.NewSource(1))
	pieces := []string{"a", " ", "\n", "\r", "\t", "é", "😀", "\x80", "\xff", "\xe2\x82", "\uFFFD", "\uFFFE", ":", "\x00"}
	for range 500 {
		s := ""
		for range chance.Intn(8) {
			s += pieces[chance.Intn(len(pieces))]
		}
		l = append(l, s)
	}
	return l
}

func TestDecodeNarrow(t *testing.T) { // P1.1
	for _, x := range []struct {
		in, want string
		e        api.Errno
		at       int
	}{
		{"", "", api.OK, 0},
		{"a\r\nb\r", "a\nb\n", api.OK, 0},
		{"\r\r\n\r\r\n\n", "\n\n\n\n\n", api.OK, 0},
		{"\xef\xbb\xbf", "", api.OK, 0},
		{"\xef\xbb\xbfa", "a", api.OK, 0},
		{"\xef\xbb\xbf\xef\xbb\xbfa", "\ufeffa", api.OK, 0},
		{"a\ufeff", "a\ufeff", api.OK, 0},
		{"\uFFFD", "\uFFFD", api.OK, 0},
		{"\xef\xbb", "", api.ErrUtf, 0},
		{"\xef\xbb\xbf\xff", "", api.ErrUtf, 3},
		{"\xef\xbb\xbfa\x00", "", api.ErrChar, 4},
		{"a\xffb\x00", "", api.ErrUtf, 1},
		{"a\x00b\xff", "", api.ErrChar, 1},
		{"ab\x00", "", api.ErrChar, 2},
		{"é\xc0\x80", "", api.ErrUtf, 2},
		{"\xe0\x80\x80", "", api.ErrUtf, 0},
		{"\xed\x9f\xbf\xed\xa0\x80", "", api.ErrUtf, 3},
		{"\xed\xbf\xbf", "", api.ErrUtf, 0},
		{"\xf4\x8f\xbf\xbf\xf4\x90\x80\x80", "", api.ErrUtf, 4},
		{"a\xe2\x82", "", api.ErrUtf, 1},
		{"a\xe2\x82b", "", api.ErrUtf, 1},
		{"a\uFFFE", "", api.ErrChar, 1},
		{"a\uFFFF", "", api.ErrChar, 1},
		{"\x7f\u0080\x0b", "", api.ErrChar, 3},
		{"\xfea", "", api.ErrUtf, 0},
	} {
		if s, e, at := xchar.Decode([]byte(x.in)); s != x.want || e != x.e || at != x.at {
			t.Errorf("%q: %q %v %v, not %q %v %v", x.in, s, e, at, x.want, x.e, x.at)
		}
	}
	if s, e, at := xchar.Decode(nil); s != "" || e != api.OK || at != 0 {
		t.Error(s, e, at)
	}
}

func TestDecodeWide(t *testing.T) { // P1.1
	for _, x := range []struct {
		in   []uint16
		left string
		want string
		e    api.Errno
		at   int
	}{
		{nil, "", "", api.OK, 0},
		{nil, "a", "", api.ErrUtf, 2},
		{[]uint16{'a', 13, 10, 13, 'b'}, "", "a\n\nb", api.OK, 0},
		{[]uint16{0xfeff, 'a'}, "", "\ufeffa", api.OK, 0},
		{[]uint16{0xd800, 0xdc00, 0xdbff, 0xdfff}, "", "\U00010000\U0010ffff", api.OK, 0},
		{[]uint16{0xd83d, 0xde00}, "", "😀", api.OK, 0},
		{[]uint16{0xd7ff, 0xe000, 0xfffd}, "", "\ud7ff\ue000\uFFFD", api.OK, 0},
		{[]uint16{'a', 'b'}, "c", "", api.ErrUtf, 6},
		{[]uint16{'a', 0xd800}, "", "", api.ErrUtf, 4},
		{[]uint16{'a', 0xdc00, 'b'}, "", "", api.ErrUtf, 4},
		{[]uint16{0xdc00, 0xd800}, "", "", api.ErrUtf, 2},
		{[]uint16{'a', 0xd83d, 'b'}, "", "", api.ErrUtf, 4},
		{[]uint16{0xd83d, 0xd83d, 0xde00}, "", "", api.ErrUtf, 2},
		{[]uint16{0xd83d, 0xde00, 0xde00}, "", "", api.ErrUtf, 6},
		{[]uint16{'a', 0xd83d}, "x", "", api.ErrUtf, 4},
		{[]uint16{0xfffe, 0xd800}, "", "", api.ErrChar, 2},
		{[]uint16{'a', 0xffff}, "", "", api.ErrChar, 4},
		{[]uint16{'a', 0}, "b", "", api.ErrChar, 4},
		{[]uint16{0xd800, 0}, "", "", api.ErrUtf, 2},
	} {
		for high := range 2 {
			b := []byte{0xfe, 0xff}
			if high == 1 {
				b = []byte{0xff, 0xfe}
			}
			for _, u := range x.in {
				two := []byte{byte(u >> 8), byte(u)}
				b = append(b, two[high], two[1-high])
			}
			b = append(b, x.left...)
			if s, e, at := xchar.Decode(b); s != x.want || e != x.e || at != x.at {
				t.Errorf("%x: %q %v %v, not %q %v %v", b, s, e, at, x.want, x.e, x.at)
			}
		}
	}
}

func TestDecodeLimit(t *testing.T) { // P1.1
	full := bytes.Repeat([]byte{'x'}, api.MaxText)
	if s, e, at := xchar.Decode(full); s != string(full) || e != api.OK || at != 0 {
		t.Error(len(s), e, at)
	}
	for _, first := range []byte{'x', 0, 0xff} {
		over := append([]byte{first}, full...)
		if s, e, at := xchar.Decode(over); s != "" || e != api.ErrLimit || at != 0 {
			t.Error(len(s), e, at)
		}
	}
	full[api.MaxText-1] = 0
	if s, e, at := xchar.Decode(full); s != "" || e != api.ErrChar || at != api.MaxText-1 {
		t.Error(len(s), e, at)
	}
	wide := append([]byte{0xfe, 0xff}, bytes.Repeat([]byte{0x20, 0xac}, api.MaxText/2-1)...)
	if s, e, at := xchar.Decode(wide); s != strings.Repeat("€", api.MaxText/2-1) || e != api.OK || at != 0 {
		t.Error(len(s), e, at)
	}
}

func TestEncode(t *testing.T) { // P1.2
	for _, x := range []struct {
		in   string
		wide bool
		want string
		e    api.Errno
	}{
		{"", false, "", api.OK},
		{"", true, "\xfe\xff", api.OK},
		{"aé\r\x00\uFFFE", false, "aé\r\x00\uFFFE", api.OK},
		{"aé\r\x00", true, "\xfe\xff\x00a\x00\xe9\x00\r\x00\x00", api.OK},
		{"\uffff\U00010000\U0010ffff😀", true, "\xfe\xff\xff\xff\xd8\x00\xdc\x00\xdb\xff\xdf\xff\xd8\x3d\xde\x00", api.OK},
		{"\ufeff", true, "\xfe\xff\xfe\xff", api.OK},
		{"\uFFFD", false, "\uFFFD", api.OK},
		{"a\xff", false, "", api.ErrUtf},
		{"a\xed\xa0\x80", true, "", api.ErrUtf},
		{strings.Repeat("x", api.MaxText), false, strings.Repeat("x", api.MaxText), api.OK},
		{strings.Repeat("x", api.MaxText), true, "\xfe\xff" + strings.Repeat("\x00x", api.MaxText), api.OK},
		{strings.Repeat("x", api.MaxText+1), false, "", api.ErrLimit},
		{strings.Repeat("é", api.MaxText/2) + "x", true, "", api.ErrLimit},
		{strings.Repeat("x", api.MaxText) + "\xff", true, "", api.ErrUtf},
	} {
		b, e := xchar.Encode(x.in, x.wide)
		if string(b) != x.want || e != x.e {
			t.Errorf("%.20q %v: %.40x %v, not %.40x %v", x.in, x.wide, b, e, x.want, x.e)
		}
	}
}

func TestEncodeWideOfAll(t *testing.T) { // P1.2: held against the library's UTF-16
	for first := rune(0); first <= 0x10ffff; first += 0x1000 {
		var l []rune
		for r := first; r < first+0x1000; r++ {
			if utf8.ValidRune(r) {
				l = append(l, r)
			}
		}
		want := []byte{0xfe, 0xff}
		for _, u := range utf16.Encode(l) {
			want = append(want, byte(u>>8), byte(u))
		}
		if b, e := xchar.Encode(string(l), true); e != api.OK || !bytes.Equal(b, want) {
			t.Fatalf("%x: %v", first, e)
		}
	}
}

func TestCharacters(t *testing.T) { // P1.2: every character, and what is none
	for r := rune(-0x100); r <= 0x110100; r++ {
		same(t, r, "IsChar", xchar.IsChar(r), chars.hold(r))
		same(t, r, "IsBlank", xchar.IsBlank(r), blanks.hold(r))
		same(t, r, "Begins", xchar.Begins(r), begin.hold(r))
		same(t, r, "GoesOn", xchar.GoesOn(r), goOn.hold(r))
	}
	for _, r := range []rune{math.MinInt32, math.MaxInt32, -1} {
		if xchar.IsChar(r) || xchar.IsBlank(r) || xchar.Begins(r) || xchar.GoesOn(r) {
			t.Error(r)
		}
	}
}

func same(t *testing.T, r rune, what string, got, want bool) {
	t.Helper()
	if got != want {
		t.Errorf("%s of %x: %v", what, r, got)
	}
}

func TestIsText(t *testing.T) { // P1.2
	for s, want := range map[string]bool{"": true, "a\t\n\r é😀": true, "\uFFFD": true, "\x7f": true, "\x00": false, "\x1f": false,
		"\uFFFE": false, "a\uFFFF": false, "\xff": false, "a\xed\xa0\x80": false, "\xc0\x80": false} {
		if xchar.IsText(s) != want {
			t.Errorf("%q", s)
		}
	}
	if !xchar.IsText(strings.Repeat("x", api.MaxText+1)) {
		t.Error("a long one")
	}
}

func TestNames(t *testing.T) { // P1.2
	for _, s := range []string{"a", "_", "é-1", "a.b-c_9", "a·", "\U00010000", "\U000effff", "\uFFFD"} {
		if !xchar.IsName(s) {
			t.Errorf("%q is a name", s)
		}
		if p, l, ok := xchar.Split(s); !ok || p != "" || l != s {
			t.Errorf("%q: %q %q %v", s, p, l, ok)
		}
		if p, l, ok := xchar.Split("x:" + s); !ok || p != "x" || l != s {
			t.Errorf("%q: %q %q %v", s, p, l, ok)
		}
		if p, l, ok := xchar.Split(s + ":y"); !ok || p != s || l != "y" {
			t.Errorf("%q: %q %q %v", s, p, l, ok)
		}
	}
	for _, s := range []string{"", "1", "-a", ".a", "·", "a b", " a", "a ", "a\xff", "\xff", "a\xe2\x82", "×", "a×", "\U000f0000", "a\x00", "a/b"} {
		if xchar.IsName(s) {
			t.Errorf("%q is no name", s)
		}
		for _, q := range []string{s, "x:" + s, s + ":x"} {
			if p, l, ok := xchar.Split(q); ok || p != "" || l != "" {
				t.Errorf("%q: %q %q %v", q, p, l, ok)
			}
		}
	}
	for _, s := range []string{":", "::", "a:b:c", "a::b", ":a:b", "a:b:"} {
		if p, l, ok := xchar.Split(s); ok || p != "" || l != "" || xchar.IsName(s) {
			t.Errorf("%q: %q %q %v", s, p, l, ok)
		}
	}
}

func TestCount(t *testing.T) { // P1.3
	for s, want := range map[string]int{"": 0, "aéb": 3, "😀": 1, "\xff\xfe": 2, "\xe2\x82": 2, "a\xe2\x82é": 4, "\xed\xa0\x80": 3,
		"\x00": 1, "\uFFFD\xff": 2} {
		if n := xchar.Count(s); n != want {
			t.Errorf("%q: %d, not %d", s, n, want)
		}
	}
}

func TestCut(t *testing.T) { // P1.3
	for _, x := range []struct {
		s        string
		from, to int
		want     string
	}{
		{"aéb", 0, 3, "aéb"}, {"aéb", 1, 2, "é"}, {"aéb", 1, 3, "éb"}, {"aéb", 0, 1, "a"}, {"aéb", 2, 3, "b"},
		{"aéb", -5, 2, "aé"}, {"aéb", 1, 99, "éb"}, {"aéb", 3, 9, ""}, {"aéb", 4, 9, ""}, {"aéb", 2, 2, ""},
		{"aéb", 2, 1, ""}, {"aéb", -2, -1, ""}, {"aéb", -1, 0, ""}, {"", 0, 1, ""}, {"", -1, 9, ""},
		{"aéb", math.MinInt, math.MaxInt, "aéb"}, {"aéb", math.MaxInt, math.MinInt, ""}, {"aéb", math.MaxInt - 1, math.MaxInt, ""},
		{"a\xffb\xe2\x82", 1, 4, "\xffb\xe2"}, {"😀\xff😀", 1, 2, "\xff"},
	} {
		if s := xchar.Cut(x.s, x.from, x.to); s != x.want {
			t.Errorf("%q from %d to %d: %q", x.s, x.from, x.to, s)
		}
	}
}

func TestTrim(t *testing.T) { // P1.3
	for s, want := range map[string]string{"": "", " \t\r\n": "", "  a  b": "a b", " a \n b ": "a b", "a\tb\r\nc": "a b c", "a": "a",
		"\xff \xfe": "\xff \xfe", "\u00a0a\u2003b": "\u00a0a\u2003b", "\va\f": "\va\f", " \xe2\x82 ": "\xe2\x82", "\x00  \x00": "\x00 \x00"} {
		if got := xchar.Trim(s); got != want {
			t.Errorf("%q: %q, not %q", s, got, want)
		}
	}
}

func TestThereAndBack(t *testing.T) { // P1.4
	tried := 0
	for _, s := range oddTexts() {
		if !xchar.IsText(s) || strings.Contains(s, "\r") || strings.HasPrefix(s, "\ufeff") {
			continue
		}
		for _, wide := range []bool{false, true} {
			b, e := xchar.Encode(s, wide)
			if e == api.ErrLimit || len(b) > api.MaxText {
				continue
			}
			tried++
			if got, f, at := xchar.Decode(b); e != api.OK || f != api.OK || at != 0 || got != s {
				t.Errorf("%q: %q %v %v %v", s, got, e, f, at)
			}
		}
	}
	if tried < 50 {
		t.Error(tried)
	}
	for r := rune(0); r <= 0x10ffff; r++ {
		if chars.hold(r) && r != 13 && r != 0xfeff {
			for _, wide := range []bool{false, true} {
				b, _ := xchar.Encode(string(r), wide)
				if got, e, _ := xchar.Decode(b); e != api.OK || got != string(r) {
					t.Fatalf("%x: %q %v", r, got, e)
				}
			}
		}
	}
}

func TestCutInTwo(t *testing.T) { // P1.5
	for _, s := range oddTexts() {
		n := xchar.Count(s)
		for _, at := range []int{-1, 0, 1, 2, 3, n / 2, n - 1, n, n + 1} {
			ahead, behind := xchar.Cut(s, 0, at), xchar.Cut(s, at, n)
			if ahead+behind != s {
				t.Errorf("%q at %d: %q %q", s, at, ahead, behind)
			}
			if want := min(max(at, 0), n); utf8.ValidString(s) && xchar.Count(ahead) != want {
				t.Errorf("%q at %d: %q", s, at, ahead)
			}
		}
	}
}

func TestTrimmedOnce(t *testing.T) { // P1.6
	for _, s := range oddTexts() {
		once := xchar.Trim(s)
		if xchar.Trim(once) != once || strings.Contains(once, "  ") || strings.ContainsAny(once, "\t\r\n") ||
			strings.HasPrefix(once, " ") || strings.HasSuffix(once, " ") {
			t.Errorf("%q: %q", s, once)
		}
		if bare := strings.NewReplacer(" ", "", "\t", "", "\r", "", "\n", ""); bare.Replace(once) != bare.Replace(s) {
			t.Errorf("%q: %q", s, once)
		}
	}
}

func TestAnyArguments(t *testing.T) { // P1, P2, P6: calls end, answer zero values beside an error, and the same again
	for _, s := range oddTexts() {
		ask := func() string {
			text, e, at := xchar.Decode([]byte(s))
			wide, f := xchar.Encode(s, true)
			prefix, local, ok := xchar.Split(s)
			if e != api.OK && text != "" || e == api.OK && at != 0 || f != api.OK && len(wide) > 0 || !ok && prefix+local != "" {
				t.Errorf("%q: %q %v %v %x %v", s, text, e, at, wide, f)
			}
			return fmt.Sprint(text, e, at, wide, f, prefix, local, ok, xchar.IsText(s), xchar.IsName(s), xchar.Trim(s))
		}
		if ask() != ask() {
			t.Errorf("%q", s)
		}
	}
}

func TestListsStay(t *testing.T) { // P3
	for _, s := range []string{"a\r\nb", "\xff\xfea\x00\r\x00", "\xef\xbb\xbfa", "a\xff", ""} {
		room := append([]byte(s), "spare"...)
		text, _, _ := xchar.Decode(room[:len(s)])
		if string(room) != s+"spare" {
			t.Errorf("%q became %q", s, room)
		}
		kept := strings.Clone(text)
		for i := range room {
			room[i] = 'z'
		}
		if text != kept {
			t.Errorf("%q lies in what was handed in", kept)
		}
	}
	for _, wide := range []bool{false, true} {
		one, _ := xchar.Encode("abc", wide)
		two, _ := xchar.Encode("abc", wide)
		kept := string(two)
		for i := range one[:cap(one)] {
			one[:cap(one)][i] = 'z'
		}
		if string(two) != kept {
			t.Error("one answer lies in another one")
		}
	}
}
