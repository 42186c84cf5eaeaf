package xplex_test

import (
	"fmt"
	"math/rand"
	"reflect"
	"regexp"
	"slices"
	"strings"
	"testing"

	"stencil/api"
	"stencil/xplex"
)

// show is tokens in short: of each a letter, its text, its place.
func show(l []api.Lex) string {
	var out []string
	for _, x := range l {
		out = append(out, fmt.Sprintf("%c%s@%d", "?nsNFTAVOS"[x.Kind], x.Text, x.At))
	}
	return strings.Join(out, " ")
}

// bare is tokens without their places.
func bare(l []api.Lex) []api.Lex {
	out := slices.Clone(l)
	for i := range out {
		out[i].At = 0
	}
	return out
}

func wantTokens(t *testing.T, s, want string) {
	t.Helper()
	l, e, at := xplex.Scan(s)
	if got := show(l); e != api.OK || at != 0 || got != want {
		t.Errorf("Scan(%q) = %s, %d, %d, want %s", s, got, e, at, want)
	}
}

// wantFault takes the place of the error as a ^ in the text.
func wantFault(t *testing.T, marked string, want api.Errno) {
	t.Helper()
	s, place := strings.Replace(marked, "^", "", 1), strings.Index(marked, "^")
	l, e, at := xplex.Scan(s)
	if e != want || at != place || len(l) != 0 {
		t.Errorf("Scan(%.60q) = %s, %d, %d, want %d, %d", s, show(l), e, at, want, place)
	}
}

func TestScan(t *testing.T) { // P5.1
	for s, want := range map[string]string{
		"":                            "",
		" \t\r\n":                     "",
		"* * *":                       "N*@0 O*@2 N*@4",
		"***":                         "N*@0 O*@1 N*@2",
		"div div div":                 "Ndiv@0 Odiv@4 Ndiv@8",
		"and or or":                   "Nand@0 Oor@4 Nor@7",
		"mod mod mod":                 "Nmod@0 Omod@4 Nmod@8",
		"text ( )":                    "Ttext@0 S(@5 S)@7",
		"comment()":                   "Tcomment@0 S(@7 S)@8",
		"node\n(":                     "Tnode@0 S(@5",
		"processing-instruction('x')": "Tprocessing-instruction@0 S(@22 sx@23 S)@26",
		"a":                           "Na@0",
		" a ":                         "Na@1",
		"a:b":                         "Na:b@0",
		"a:*":                         "Na:*@0",
		"a:* * a:*":                   "Na:*@0 O*@4 Na:*@6",
		"a:**a:*":                     "Na:*@0 O*@3 Na:*@4",
		"f(":                          "Ff@0 S(@1",
		"f \t(":                       "Ff@0 S(@3",
		"a:f(":                        "Fa:f@0 S(@3",
		"a:text ()":                   "Fa:text@0 S(@7 S)@8",
		"text:text()":                 "Ftext:text@0 S(@9 S)@10",
		"and(":                        "Fand@0 S(@3",
		"1 and(":                      "n1@0 Oand@2 S(@5",
		"a:*(":                        "Na:*@0 S(@3",
		"*(":                          "N*@0 S(@1",
		"child::a":                    "Achild@0 S::@5 Na@7",
		"child \n:: a":                "Achild@0 S::@7 Na@10",
		"child::child::a":             "Achild@0 S::@5 Achild@7 S::@12 Na@14",
		"x::*":                        "Ax@0 S::@1 N*@3",
		"x::y:*":                      "Ax@0 S::@1 Ny:*@3",
		"text::text()":                "Atext@0 S::@4 Ttext@6 S(@10 S)@11",
		"div::div div div":            "Adiv@0 S::@3 Ndiv@5 Odiv@9 Ndiv@13",
		"a:b::c":                      "Na:b@0 S::@3 Nc@5",
		"a:b ::c":                     "Na:b@0 S::@4 Nc@6",
		"*::a":                        "N*@0 S::@1 Na@3",
		"a:*::b":                      "Na:*@0 S::@3 Nb@5",
		"1 and::b":                    "n1@0 Oand@2 S::@5 Nb@7",
		"@a":                          "S@@0 Na@1",
		"@ *":                         "S@@0 N*@2",
		"@a:*":                        "S@@0 Na:*@1",
		"$a":                          "Va@0",
		"$a:b":                        "Va:b@0",
		"$and and $or":                "Vand@0 Oand@5 Vor@9",
		"$a*$b":                       "Va@0 O*@2 Vb@3",
		"$a::b":                       "Va@0 S::@2 Nb@4",
		"$a(":                         "Va@0 S(@2",
		"$a$b":                        "Va@0 Vb@2",
		"$é-1.2":                      "Vé-1.2@0",
		"é":                           "Né@0",
		"\ufeffa\U00010000":           "N\ufeffa\U00010000@0",
		"a-b":                         "Na-b@0",
		"a -b":                        "Na@0 O-@2 Nb@3",
		"a.b..c":                      "Na.b..c@0",
		"a/b//c":                      "Na@0 O/@1 Nb@2 O//@3 Nc@5",
		"///":                         "O//@0 O/@2",
		"////":                        "O//@0 O//@2",
		"/ /":                         "O/@0 O/@2",
		".":                           "S.@0",
		"..":                          "S..@0",
		"...":                         "S..@0 S.@2",
		"....":                        "S..@0 S..@2",
		". .":                         "S.@0 S.@2",
		"./..":                        "S.@0 O/@1 S..@2",
		".and .":                      "S.@0 Oand@1 S.@5",
		"..*..":                       "S..@0 O*@2 S..@3",
		"a|b":                         "Na@0 O|@1 Nb@2",
		"||":                          "O|@0 O|@1",
		"+-":                          "O+@0 O-@1",
		"--1":                         "O-@0 O-@1 n1@2",
		"<=<":                         "O<=@0 O<@2",
		"<<=":                         "O<@0 O<=@1",
		"< =":                         "O<@0 O=@2",
		">=>":                         "O>=@0 O>@2",
		">>=":                         "O>@0 O>=@1",
		"==":                          "O=@0 O=@1",
		"!==":                         "O!=@0 O=@2",
		"=!=":                         "O=@0 O!=@1",
		"([,])":                       "S(@0 S[@1 S,@2 S]@3 S)@4",
		"::":                          "S::@0",
		"::::":                        "S::@0 S::@2",
		"é < 'ü' * 2":                 "Né@0 O<@3 sü@5 O*@10 n2@12",
	} {
		wantTokens(t, s, want)
	}
}

func TestScanNumbers(t *testing.T) { // P5.1: digits, perhaps a . and digits; or a . and digits
	for s, want := range map[string]string{
		"0": "n0@0", "007": "n007@0", "1.50": "n1.50@0", ".5": "n.5@0", ".05.": "n.05@0 S.@3", "1.": "n1@0 S.@1", "1.5.": "n1.5@0 S.@3",
		"1..": "n1@0 S..@1", "1..2": "n1@0 S..@1 n2@3", "1...2": "n1@0 S..@1 n.2@3", "..2": "S..@0 n2@2", "...2": "S..@0 n.2@2",
		"1.2.3": "n1.2@0 n.3@3", "1 2": "n1@0 n2@2", "1. 2": "n1@0 S.@1 n2@3", "1 .2": "n1@0 n.2@2", ". 2": "S.@0 n2@2",
		"-1": "O-@0 n1@1", "-.5": "O-@0 n.5@1", "1-1": "n1@0 O-@1 n1@2", "1and 2": "n1@0 Oand@1 n2@5", "1*2": "n1@0 O*@1 n2@2",
		"99999999999999999999": "n99999999999999999999@0", "1'a'2": "n1@0 sa@1 n2@4",
	} {
		wantTokens(t, s, want)
	}
	for _, s := range []string{"1^a", "1 ^a", "1.5^e3", ".5^x", "1^:", "^²", "1^٣", "1^_"} {
		wantFault(t, s, api.ErrWord)
	}
	wantTokens(t, "٣", "N٣@0") // no digit, but a character that begins names, by the document's ranges
}

func TestScanStrings(t *testing.T) { // P5.1
	for s, want := range map[string]string{
		`""`: "s@0", `''`: "s@0", `"a"`: "sa@0", `'a'`: "sa@0", `'"'`: `s"@0`, `"'"`: "s'@0", `'a"b"c'`: `sa"b"c@0`, `" a  b "`: "s a  b @0",
		`'(1 + $x]'`: "s(1 + $x]@0", "'\t\n\r'": "s\t\n\r@0", `'a''b'`: "sa@0 sb@3", `'a'"b"`: "sa@0 sb@3", `'!'`: "s!@0", "'é😀'and'\ufffd'": "sé😀@0 Oand@8 s\ufffd@11",
		`'@'*'('`: "s@@0 O*@3 s(@4", `'::'div'+'`: "s::@0 Odiv@4 s+@7",
	} {
		wantTokens(t, s, want)
	}
	for _, s := range []string{`^"`, `^'`, `^"a`, `^'a"`, `^"a'`, `a = ^'b`, `'a'^'`, `"a" ^"b`, `^'a b ! c`, `^" ' ' `} {
		wantFault(t, s, api.ErrWord)
	}
}

func TestScanFaults(t *testing.T) { // P5.1: the first place where no token can stand
	for _, s := range []string{
		"a ^b", "a^!", "^!", "^! =", "a ^! =", "^$", "^$ a", "^$1", "^$*", "^$'a'", "^$$a", "a + ^$", "$a^:", "$a^:*", "$a^: b", "$a ^:b", "^$:a", "$a:b^:c",
		"^:", "^:a", "::^:", "a^:", "a^: b", "a ^:b", "a^: *", "a ^:*", "a::^:b", "a:b^:c", "a:b^:*", "a:*^:b", "*^:a", "*^:*",
		"^#", "a^#", "a ^;b", "^{a}", "a^}", "^\\", "^~", "^`", "^&amp;", "^%", "1 ^? 2", "a ^\u00a0b", "^×", "^\u2028",
		"a ^a:b", "a ^a:*", "a ^and:b", "a ^and:*", "a ^div:mod", "a ^text()", "a ^f()", "a ^child::b", "1 ^and2", "1 ^And", "1 ^AND 2", "1 ^x - 2", "a- ^b", ".^and.",
		"a[1]^b", "(a)^b", "..^a", ".^a", "$a ^b", "'a'^b", "1^b", "a or ^$ or !", "a ^! b #",
	} {
		wantFault(t, s, api.ErrWord)
	}
}

// ahead are texts that end with each kind of token, and whether a name behind it is an operator.
var ahead = map[string]bool{
	"": false, "1": true, "'x'": true, "\"*\"": true, "a": true, "*": true, "p:*": true, "p:a": true, "$x": true, "$and": true,
	"f(": false, "text(": false, "child::": false, "(": false, ")": true, "[": false, "]": true, ".": true, "..": true, "@": false, ",": false, "::": false,
	"1 and": false, "1 or": false, "1 mod": false, "1 div": false, "1 *": false, "/": false, "//": false, "|": false, "+": false, "-": false,
	"=": false, "!=": false, "<": false, "<=": false, ">": false, ">=": false,
}

func TestBehindEachKind(t *testing.T) { // P5.1: a name, or *, behind each kind of token
	for s, operator := range ahead {
		for _, word := range []string{"and", "or", "mod", "div", "*", "a", "p:a", "p:*", "and:a", "andy", "f(", "text (", "child ::", "and(", "and::"} {
			l, e, at := xplex.Scan(s + " " + word)
			name := strings.TrimRight(word, " (:")
			four := strings.Contains(" and or mod div * ", " "+name+" ")
			if operator && !four {
				if e != api.ErrWord || at != len(s)+1 || len(l) != 0 {
					t.Errorf("%q %q: %s, %d, %d", s, word, show(l), e, at)
				}
				continue
			}
			want := api.LexName
			switch {
			case operator:
				want = api.LexOperator
			case name == "text":
				want = api.LexType
			case strings.HasSuffix(word, "("):
				want = api.LexFunction
			case strings.HasSuffix(word, "::"):
				want = api.LexAxis
			}
			i := slices.IndexFunc(l, func(x api.Lex) bool { return x.At == len(s)+1 })
			if e != api.OK || at != 0 || i < 0 || l[i].Kind != want || l[i].Text != name {
				t.Errorf("%q %q: %s, %d, %d, want %d", s, word, show(l), e, at, want)
			}
		}
	}
}

func TestScanLimits(t *testing.T) { // P5.1: MaxExpr, MaxTokens
	most := strings.Repeat("(", api.MaxExpr)
	if l, e, at := xplex.Scan(most); len(l) != min(api.MaxTokens, api.MaxExpr) || e != api.OK || at != 0 || l[len(l)-1].At != len(l)-1 {
		t.Error(len(l), e, at)
	}
	for _, s := range []string{most + "(", most + " ", " " + most, most + "\xff", "\xff" + most, "!" + most, strings.Repeat("é", api.MaxExpr/2) + "a", strings.Repeat(" ", api.MaxExpr+1), strings.Repeat("a", 1<<20)} {
		if l, e, at := xplex.Scan(s); l != nil || e != api.ErrLimit || at != 0 {
			t.Error(len(s), len(l), e, at)
		}
	}
	for _, s := range []string{strings.Repeat("a", api.MaxExpr), strings.Repeat("é", api.MaxExpr/2), "'" + strings.Repeat(" ", api.MaxExpr-2) + "'", strings.Repeat(" ", api.MaxExpr-1) + "1", strings.Repeat("1", api.MaxExpr)} {
		if l, e, at := xplex.Scan(s); len(l) != 1 || e != api.OK || at != 0 {
			t.Error(len(s), len(l), e, at)
		}
	}
}

func TestScanCharacters(t *testing.T) { // P5.1: ErrChar is told ahead of ErrWord, wherever both stand
	for _, s := range []string{
		"^\x00", "a^\x01", "'^\x1f'", "'a' + ^\xff", "é^\xe9", "a^\xe2\x82", "'^\xed\xa0\x80'", "^\ufffe", "'a^\uffff'", "^\xc0\x80", "a ^\xf4\x90\x80\x80", "\ufffd^\xff", "'\ufffd^\xef\xbf'",
		"a b ^\x00", "! ^\xff", "'^\x00", "$ ^\x00", "a^\x00 b\x01", "a^\x0b", "a^\x0c",
	} {
		wantFault(t, s, api.ErrChar)
	}
	wantTokens(t, "'\x7f\u0085\ufffd\U0010ffff'", "s\x7f\u0085\ufffd\U0010ffff@0")
}

// The other rule: tokens by the library's regular expressions, the longest one first.
var rules = []struct {
	kind api.LexKind
	re   *regexp.Regexp
}{
	{api.LexNumber, regexp.MustCompile(`^([0-9]+(\.[0-9]+)?|\.[0-9]+)`)},
	{api.LexString, regexp.MustCompile(`^("[^"]*"|'[^']*')`)},
	{api.LexVariable, regexp.MustCompile(`^\$[a-zé_][-.0-9a-zé_]*(:[a-zé_][-.0-9a-zé_]*)?`)},
	{api.LexName, regexp.MustCompile(`^(\*|[a-zé_][-.0-9a-zé_]*(:(\*|[a-zé_][-.0-9a-zé_]*))?)`)},
	{api.LexOperator, regexp.MustCompile(`^(//|/|\||\+|-|=|!=|<=|<|>=|>)`)},
	{api.LexSign, regexp.MustCompile(`^(\(|\)|\[|\]|\.\.|\.|@|,|::)`)},
}

var (
	function = regexp.MustCompile(`^[^*]+[ \t\r\n]*\($`)
	axis     = regexp.MustCompile(`^[^*:]+[ \t\r\n]*::$`)
)

func model(s string) ([]api.Lex, api.Errno, int) {
	var l []api.Lex
	for at := 0; ; {
		rest := strings.TrimLeft(s[at:], " \t\r\n")
		at = len(s) - len(rest)
		if rest == "" {
			return l, api.OK, 0
		}
		x := api.Lex{At: at}
		size := 0
		for _, r := range rules {
			if m := r.re.FindString(rest); len(m) > size {
				x.Kind, x.Text, size = r.kind, m, len(m)
			}
		}
		switch x.Kind {
		case api.LexEnd:
			return nil, api.ErrWord, at
		case api.LexString:
			x.Text = x.Text[1 : size-1]
		case api.LexVariable:
			x.Text = x.Text[1:]
		case api.LexName:
			behind := strings.TrimLeft(rest[size:], " \t\r\n")
			operand := len(l) == 0 || l[len(l)-1].Kind == api.LexOperator ||
				l[len(l)-1].Kind == api.LexSign && strings.Contains("@ :: ( [ ,", l[len(l)-1].Text)
			switch {
			case !operand && !regexp.MustCompile(`^(and|or|mod|div|\*)$`).MatchString(x.Text):
				return nil, api.ErrWord, at
			case !operand:
				x.Kind = api.LexOperator
			case function.MatchString(x.Text + behind[:min(1, len(behind))]):
				x.Kind = api.LexFunction
				if regexp.MustCompile(`^(comment|text|processing-instruction|node)$`).MatchString(x.Text) {
					x.Kind = api.LexType
				}
			case axis.MatchString(x.Text + behind[:min(2, len(behind))]):
				x.Kind = api.LexAxis
			}
		}
		l = append(l, x)
		at += size
	}
}

var pieces = []string{"a", "p:a", "p:*", "*", ":", "::", "and", "or", "div", "mod", "text", "node", "1", ".", "..", ".5", "1.5", "'x'", "\"y'\"", "'", "\"", "$", "$v", "(", ")", "[", "]",
	"@", ",", "/", "//", "|", "+", "-", "=", "!", "!=", "<", "<=", ">", " ", "\n", "é", "child", "_", "#"}

func TestAgainstModel(t *testing.T) { // P5.1, P5.3, P5.4: all short rows of pieces, and longer ones by chance
	told := 0
	check := func(s string) {
		want, f, place := model(s)
		l, e, at := xplex.Scan(s)
		if e != f || at != place || !slices.Equal(l, want) {
			t.Fatalf("Scan(%q) = %s, %d, %d, want %s, %d, %d", s, show(l), e, at, show(want), f, place)
		}
		if e == api.OK {
			told++
			wantBack(t, l)
		}
	}
	for _, a := range pieces {
		check(a)
		for _, b := range pieces {
			check(a + b)
			for _, c := range pieces {
				check(a + b + c)
			}
		}
	}
	chance := rand.New(rand.NewSource(5))
	for range 60000 {
		s := ""
		for range 4 + chance.Intn(8) {
			s += pieces[chance.Intn(len(pieces))]
		}
		check(s)
	}
	if told < 20000 {
		t.Error(told)
	}
}

// wantBack asks whether tokens are scanned again from what they are joined to, if that is not too long.
func wantBack(t *testing.T, l []api.Lex) {
	t.Helper()
	s := xplex.Join(l...)
	again, e, _ := xplex.Scan(s)
	if len(s) > api.MaxExpr && e == api.ErrLimit {
		return
	}
	if e != api.OK || !slices.Equal(bare(again), bare(l)) {
		t.Fatalf("%s is joined to %q: %s, %d", show(l), s, show(again), e)
	}
}

func TestJoin(t *testing.T) { // P5.2
	lex := func(kind api.LexKind, text string) api.Lex { return api.Lex{Kind: kind, Text: text, At: 7} }
	for _, c := range []struct {
		l    []api.Lex
		want string
	}{
		{nil, ""},
		{[]api.Lex{}, ""},
		{[]api.Lex{lex(api.LexName, "a")}, "a"},
		{[]api.Lex{lex(api.LexFunction, "f"), lex(api.LexSign, "("), lex(api.LexVariable, "p:x"), lex(api.LexSign, ","), lex(api.LexString, "a"), lex(api.LexSign, ")")}, `f ( $p:x , "a" )`},
		{[]api.Lex{lex(api.LexAxis, "child"), lex(api.LexSign, "::"), lex(api.LexType, "text"), lex(api.LexOperator, "div"), lex(api.LexNumber, "1.50")}, "child :: text div 1.50"},
		{[]api.Lex{lex(api.LexString, ""), lex(api.LexString, `"`), lex(api.LexString, `'`), lex(api.LexString, `'"'`)}, `"" '"' "'" "'"'"`},
		{[]api.Lex{lex(api.LexEnd, ""), lex(api.LexEnd, "x"), lex(-1, "$"), lex(99, "'")}, ` x $ '`},
		{[]api.Lex{lex(api.LexVariable, ""), lex(api.LexNumber, " "), lex(api.LexName, "\xff")}, "$   \xff"},
	} {
		if got := xplex.Join(c.l...); got != c.want {
			t.Errorf("Join(%v) = %q, want %q", c.l, got, c.want)
		}
	}
}

func TestLiteral(t *testing.T) { // P5.2
	for s, want := range map[string]string{"": `""`, "a": `"a"`, `a"b`: `'a"b'`, `"`: `'"'`, "a'b": `"a'b"`, "'": `"'"`, " \n": "\" \n\"", "\xff\x00": "\"\xff\x00\"", `""`: `'""'`} {
		if got, e := xplex.Literal(s); got != want || e != api.OK {
			t.Errorf("Literal(%q) = %q, %d", s, got, e)
		}
	}
	for _, s := range []string{`"'`, `'"`, `a"b'c`, `''""`, "\xff'\""} {
		if got, e := xplex.Literal(s); got != "" || e != api.ErrWord {
			t.Errorf("Literal(%q) = %q, %d", s, got, e)
		}
	}
}

func TestThereAndBack(t *testing.T) { // P5.3 (E1)
	for _, s := range []string{
		"", "a", "* * *", "div div div", "a/b//c[@d='e\"'][position() = last()]", "child::p:*|text()|processing-instruction(\"it's\")", "- - 1.50 mod .5", "f($p:x, 'a', \"'\")",
		"..//.", "1...2", "1. + .", "p:a::b", "and(and and and)", "or :: or or or", "a:*(", "$a::b", "::::", "1 2 'a' 'b'", "..*..",
	} {
		l, e, _ := xplex.Scan(s)
		if e != api.OK {
			t.Errorf("%q: %d", s, e)
		}
		wantBack(t, l)
	}
	long, _, _ := xplex.Scan(strings.Repeat("(", api.MaxExpr/2+1))
	if _, e, at := xplex.Scan(xplex.Join(long...)); e != api.ErrLimit || at != 0 { // the one way in which it may not go back
		t.Error(e, at)
	}
}

func TestBlanks(t *testing.T) { // P5.4: blanks between tokens, more of them or none, where none must part two
	chance := rand.New(rand.NewSource(6))
	blanks := []string{" ", "\t", "\n", "\r", "  ", " \r\n\t"}
	for _, s := range []string{"a/b[ 1]", "f ( x ) ::y", "child :: a * b", "text ( ) | comment ( )", "$a div $b", "'a' + 'b'", "1 - - 2", "a and b or c mod d", "@ a = . .. //"} {
		l, e, _ := xplex.Scan(s)
		if e != api.OK {
			t.Fatal(s, e)
		}
		for range 50 {
			spaced := blanks[chance.Intn(len(blanks))]
			for _, x := range l {
				spaced += xplex.Join(x) + blanks[chance.Intn(len(blanks))]
			}
			got, e, _ := xplex.Scan(spaced)
			if e != api.OK || !slices.Equal(bare(got), bare(l)) {
				t.Fatalf("%q as %q: %s, %d", s, spaced, show(got), e)
			}
			for i, x := range got {
				if !strings.HasPrefix(spaced[x.At:], xplex.Join(l[i])) {
					t.Fatalf("%q: %s", spaced, show(got))
				}
			}
		}
	}
	for a, b := range map[string]string{"a / b": "a/b", "f ( 1 , 2 )": "f(1,2)", "child :: a [ 1 ]": "child::a[1]", "@ *": "@*", "1 * 2": "1*2", "$a - 1": "$a -1"} {
		l, _, _ := xplex.Scan(a)
		m, e, _ := xplex.Scan(b)
		if e != api.OK || !slices.Equal(bare(l), bare(m)) {
			t.Errorf("%q: %s; %q: %s", a, show(l), b, show(m))
		}
	}
}

func TestAnyTexts(t *testing.T) { // P1, P2, P6: calls end, answer nothing beside an error, and the same again
	chance := rand.New(rand.NewSource(7))
	texts := []string{"\xff", "\x00", strings.Repeat("\xff", api.MaxExpr+1), strings.Repeat("'", api.MaxExpr), strings.Repeat(":", api.MaxExpr), strings.Repeat("$", api.MaxExpr)}
	for range 20000 {
		b := make([]byte, chance.Intn(12))
		for i := range b {
			b[i] = byte(chance.Intn(256))
			if chance.Intn(3) > 0 {
				b[i] = pieces[chance.Intn(len(pieces))][0]
			}
		}
		texts = append(texts, string(b))
	}
	for _, s := range texts {
		l, e, at := xplex.Scan(s)
		m, f, place := xplex.Scan(s)
		if e != f || at != place || !reflect.DeepEqual(l, m) {
			t.Fatalf("%q: %d, %d, then %d, %d", s, e, at, f, place)
		}
		if e == api.OK && at != 0 || e != api.OK && len(l) != 0 || at < 0 || at > len(s) || e != api.OK && e != api.ErrChar && e != api.ErrWord && e != api.ErrLimit {
			t.Fatalf("%q: %s, %d, %d", s, show(l), e, at)
		}
		if e == api.OK {
			wantBack(t, l)
		}
		for i, x := range l {
			if x.At < 0 || x.At >= len(s) || i > 0 && x.At <= l[i-1].At || !strings.HasPrefix(s[x.At:], x.Text) && !strings.HasPrefix(s[x.At+1:], x.Text) {
				t.Fatalf("%q: %s", s, show(l))
			}
		}
		if got, e := xplex.Literal(s); (e == api.OK) != (got != "") {
			t.Fatalf("%q: %q, %d", s, got, e)
		}
		xplex.Join(api.Lex{Kind: api.LexKind(chance.Intn(12) - 1), Text: s, At: -1}, api.Lex{Kind: api.LexString, Text: s})
	}
}

func TestListsStay(t *testing.T) { // P3
	room := []api.Lex{{Kind: api.LexString, Text: `"`, At: 3}, {Kind: api.LexVariable, Text: "x"}, {Kind: api.LexName, Text: "spare"}}
	kept := slices.Clone(room)
	if s := xplex.Join(room[:2]...); s != `'"' $x` || !slices.Equal(room, kept) {
		t.Error(s, room)
	}
	one, _, _ := xplex.Scan("a + b")
	want := show(one)
	two, _, _ := xplex.Scan("a + b")
	one = one[:cap(one)]
	for i := range one {
		one[i] = api.Lex{Text: "spoilt"}
	}
	three, _, _ := xplex.Scan("a + b")
	if show(two) != want || show(three) != want {
		t.Error(show(two), show(three))
	}
}
