package xsheet_test

import (
	"math/rand"
	"reflect"
	"regexp"
	"strings"
	"testing"

	"stencil/api"
	"stencil/xsheet"
)

func TestText(t *testing.T) { // P11.4, P11.6
	for s, want := range map[string][]string{
		"":                     {""},
		"a":                    {"a"},
		" \"'é\x00\xff $[":     {" \"'é\x00\xff $["},
		"a{b}c{{":              {"a", "b", "c{"},
		"{a}":                  {"", "a", ""},
		"{a}{b}":               {"", "a", "", "b", ""},
		"a{b}{c}d":             {"a", "b", "", "c", "d"},
		"{ a }":                {"", " a ", ""},
		"{ }":                  {"", " ", ""},
		"{{":                   {"{"},
		"}}":                   {"}"},
		"{{}}":                 {"{}"},
		"{{{{}}}}":             {"{{}}"},
		"{{a}}":                {"{a}"},
		"{{{a}}}":              {"{", "a", "}"},
		"{a}}}":                {"", "a", "}"},
		"{{{{{a}{{":            {"{{", "a", "{"},
		"}}{a}}}{{":            {"}", "a", "}{"},
		"a}}b{{c":              {"a}b{c"},
		`{"}"}`:                {"", `"}"`, ""},
		`{'{'}`:                {"", `'{'`, ""},
		`{"'}"}`:               {"", `"'}"`, ""},
		`{'"}}{{"'}`:           {"", `'"}}{{"'`, ""},
		`{concat("a}", '}')}`:  {"", `concat("a}", '}')`, ""},
		`"{a}"`:                {`"`, "a", `"`},
		`'{a}{` + `{'`:         {"'", "a", "{'"},
		"{é}\xff{\xff}":        {"", "é", "\xff", "\xff", ""},
		"{]}":                  {"", "]", ""},
		"{a\n}":                {"", "a\n", ""},
		"a{$b}c{d/e[1]}f{{g}}": {"a", "$b", "c", "d/e[1]", "f{g}"},
	} {
		if got, e := xsheet.Text(s); e != api.OK || !reflect.DeepEqual(got, want) {
			t.Errorf("%q: %q, %d, want %q", s, got, e, want)
		}
	}
	for _, s := range []string{
		"{", "}", "a{", "a}", "{}", "a{}b", "{a", "{{a}", "{a}}", "{a{b}c}", "{{{", "}}}", "{{}", "{}}", "{{{}}}", "{a}{", "{a}{}", "{a}}{b}", "a}b", "{a}b}", "{a{{b}",
		`{"}`, `{'}`, `{"a'}`, `{'a"}`, `{"}"`, `{"a"`, `{a"b}c`, `{"a"}}`, `{'a'{}`, "{a}{b", "}{a}", "\x00}\xff", "é{é", "{{{a}}", "{a}}}}",
	} {
		if got, e := xsheet.Text(s); e != api.ErrWord || len(got) != 0 {
			t.Errorf("%q: %q, %d", s, got, e)
		}
	}
}

// one is a template as regular expressions say it, and a part of one.
var (
	one  = regexp.MustCompile(`^(?:[^{}]|\{\{|\}\}|\{(?:[^{}"']|"[^"]*"|'[^']*')+\})*$`)
	some = regexp.MustCompile(`[^{}]+|\{\{|\}\}|\{(?:[^{}"']|"[^"]*"|'[^']*')+\}`)
)

// partsOf are a template's; false, if it is none.
func partsOf(s string) ([]string, bool) {
	if !one.MatchString(s) {
		return nil, false
	}
	parts := []string{""}
	for _, x := range some.FindAllString(s, -1) {
		last := len(parts) - 1
		switch {
		case x == "{{" || x == "}}":
			parts[last] += x[:1]
		case x[0] == '{':
			parts = append(parts, x[1:len(x)-1], "")
		default:
			parts[last] += x
		}
	}
	return parts, true
}

func TestAllShortTexts(t *testing.T) { // P11.4: all texts of a few signs
	const signs = "a{}\"'"
	var all func(s string, left int)
	right := 0
	all = func(s string, left int) {
		want, ok := partsOf(s)
		got, e := xsheet.Text(s)
		if ok != (e == api.OK) || !ok && (e != api.ErrWord || len(got) > 0) || ok && !reflect.DeepEqual(got, want) {
			t.Fatalf("%q: %q, %d, want %q, %v", s, got, e, want, ok)
		}
		if ok {
			right++
		}
		for i := 0; left > 0 && i < len(signs); i++ {
			all(s+signs[i:i+1], left-1)
		}
	}
	all("", 7)
	if right < 1000 {
		t.Error("too few are right", right)
	}
}

func TestTextsThereAndBack(t *testing.T) { // P11.4: what is written as a template is read as its parts
	chance := rand.New(rand.NewSource(3))
	pick := func(l ...string) string { return l[chance.Intn(len(l))] }
	for range 5000 {
		parts := []string{""}
		s := ""
		for range chance.Intn(10) {
			last := len(parts) - 1
			if chance.Intn(3) == 0 {
				inner := ""
				for range 1 + chance.Intn(4) {
					inner += pick("a", " ", "$v", "'}'", `"{"`, "[1]", `"'"`, `'"'`, "é", "\xff", "''", `"}}{{"`)
				}
				parts = append(parts, inner, "")
				s += "{" + inner + "}"
				continue
			}
			text := pick("a", "{", "}", "{}", "}{", "'", `"`, "é", "\x00\xff", " ")
			parts[last] += text
			s += strings.NewReplacer("{", "{{", "}", "}}").Replace(text)
		}
		got, e := xsheet.Text(s)
		if e != api.OK || !reflect.DeepEqual(got, parts) {
			t.Fatalf("%q: %q, %d, want %q", s, got, e, parts)
		}
		if !strings.ContainsAny(s, "{}") && len(got) != 1 { // P11.6
			t.Fatalf("%q: %q", s, got)
		}
	}
}

func TestLongTexts(t *testing.T) { // P1
	many := 1 << 17
	for s, want := range map[string]int{strings.Repeat("a", many): 1, strings.Repeat("{a}", many): 2*many + 1, strings.Repeat("{{", many): 1} {
		if got, e := xsheet.Text(s); e != api.OK || len(got) != want {
			t.Error(len(got), e)
		}
	}
	for _, s := range []string{strings.Repeat("{", many+1), strings.Repeat("}", many+1), strings.Repeat("{a", many), "{'" + strings.Repeat("}", many)} {
		if got, e := xsheet.Text(s); e != api.ErrWord || len(got) > 0 {
			t.Error(len(got), e)
		}
	}
}

func TestSize(t *testing.T) { // P11.4
	leaf := api.Instr{}
	two := in(leaf, leaf, leaf)
	for _, c := range []struct {
		s    api.Sheet
		want int
	}{
		{api.Sheet{}, 0},
		{api.Sheet{Rules: []api.Rule{{}, {}}}, 0},
		{api.Sheet{Globals: []api.Instr{leaf}}, 1},
		{api.Sheet{Globals: []api.Instr{leaf, two}}, 4},
		{api.Sheet{Rules: []api.Rule{{Body: []api.Instr{two, leaf}}, {Body: []api.Instr{in(leaf, two)}}}}, 8},
		{api.Sheet{Rules: []api.Rule{{Body: []api.Instr{leaf}}}, Globals: []api.Instr{in(two, two, two)}, Strip: []string{"a"}, Method: 9}, 8},
		{api.Sheet{Globals: []api.Instr{{Do: -1, Attrs: []api.Pair{{}}, Scope: []api.Pair{{}, {}}, Kids: []api.Instr{}}}}, 1},
		{load(t, "<x:variable name='a'>t<o/></x:variable><x:template name='n'> <x:param name='p'/><x:if test='1'>t<x:text/><x:text> </x:text></x:if></x:template>"), 7},
		{load(t, templateOf("<x:choose><x:when test='1'>t</x:when><x:otherwise><x:number/></x:otherwise></x:choose><x:apply-templates><x:sort/></x:apply-templates>")), 7},
	} {
		if got := xsheet.Size(c.s); got != c.want {
			t.Errorf("%+v: %d, want %d", c.s, got, c.want)
		}
	}
	wide := api.Sheet{Globals: make([]api.Instr, 1<<17)}
	if got := xsheet.Size(wide); got != 1<<17 {
		t.Error(got)
	}
	deep := api.Sheet{Globals: []api.Instr{{}}}
	for range 1<<16 - 1 {
		deep.Globals = []api.Instr{{Kids: deep.Globals}}
	}
	if got := xsheet.Size(deep); got != 1<<16 {
		t.Error(got)
	}
	// P1: a list that holds itself has no size, but the call ends.
	round := make([]api.Instr, 1)
	round[0].Kids = round
	xsheet.Size(api.Sheet{Globals: round})
}
