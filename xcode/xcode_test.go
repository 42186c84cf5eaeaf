package xcode_test

import (
	"fmt"
	"math"
	"reflect"
	"slices"
	"strings"
	"testing"

	"stencil/api"
	"stencil/xcode"
	"stencil/xdm"
	"stencil/xeval"
	"stencil/xnum"
	"stencil/xpattern"
	"stencil/xsheet"
)

func in(i api.Instr, kids ...api.Instr) api.Instr {
	i.Kids = kids
	return i
}

func let(name, s string) api.Instr { return api.Instr{Do: api.Let, Name: name, Select: s} }

func valueOf(s string) api.Instr { return api.Instr{Do: api.ValueOf, Select: s} }

func call(name string) api.Instr { return api.Instr{Do: api.Template, Name: name} }

// body is a sheet of one rule, with these instructions.
func body(l ...api.Instr) api.Sheet { return api.Sheet{Rules: []api.Rule{{Match: "a", Body: l}}} }

func globals(l ...api.Instr) api.Sheet { return api.Sheet{Globals: l} }

func compile(t testing.TB, s api.Sheet) *xcode.Program {
	t.Helper()
	p, e := xcode.Compile(s)
	if e != api.OK || p == nil {
		t.Fatalf("%.500s: %d", fmt.Sprint(s), e)
	}
	return p
}

func refuse(t *testing.T, want api.Errno, s api.Sheet) {
	t.Helper()
	p, e := xcode.Compile(s)
	if e != want || (p == nil) == (want == api.OK) {
		t.Errorf("%.300s: %d, want %d", fmt.Sprint(s), e, want)
	}
}

// wrong are expressions, and the errors that they have.
func wrong() map[string]api.Errno {
	return map[string]api.Errno{
		"[": api.ErrWord, "a b": api.ErrWord, " ": api.ErrWord, "a[": api.ErrWord, "\x00": api.ErrChar, "'\xff'": api.ErrChar, strings.Repeat(" ", api.MaxExpr) + "a": api.ErrLimit, strings.Repeat("-", api.MaxDeep+1) + "1": api.ErrLimit,
		"q:a": api.ErrPrefix, "q:f()": api.ErrPrefix, "f()": api.ErrName, "current()": api.ErrName, "not()": api.ErrCount, "concat('a')": api.ErrCount,
	}
}

func TestExpressions(t *testing.T) { // P12.1: what is compiled, and its errors
	scope := []api.Pair{{Name: "p", Value: "u"}}
	for s, want := range wrong() {
		for do := api.Literal; do <= api.Sort; do++ {
			// Of each instruction its Select.
			i := api.Instr{Do: do, Name: "n", Select: s, Scope: scope}
			sheet := body(i)
			sheet.Rules[0].Name = "n"
			refuse(t, want, sheet)
			refuse(t, want, globals(let("v", "1"), in(let("v", "1"), valueOf("1"), in(api.Instr{Do: api.If, Select: "1"}, api.Instr{Do: api.Copy, Select: s}))))
			// The expressions in texts' templates, and no other texts.
			braced := "a{1}{" + s + "}"
			named, worded, attributed := api.OK, api.OK, api.OK
			switch do {
			case api.MakeElement, api.MakeAttr, api.MakePi:
				named = want
			case api.Count:
				worded = want
			case api.Literal:
				attributed = want
			case api.Template:
				named = api.ErrName
			}
			refuse(t, named, body(api.Instr{Do: do, Name: braced, Scope: scope}))
			sheet = body(api.Instr{Do: do, Name: "n", Text: braced, Mode: s, Scope: scope})
			sheet.Rules[0].Name = "n"
			refuse(t, worded, sheet)
			sheet.Rules[0].Body[0] = api.Instr{Do: do, Name: "n", Attrs: []api.Pair{{Name: "[", Value: "1"}, {Name: s, Value: braced}}}
			refuse(t, attributed, sheet)
		}
		refuse(t, want, api.Sheet{Rules: []api.Rule{{Match: "a[" + s + "]", Scope: scope}}})
	}
	for _, s := range []string{"{", "}", "{}", "a{b", "{a}}", `{"}`, "{a{b}}"} { // xsheet.Text's error
		for _, i := range []api.Instr{{Do: api.MakeElement, Name: s}, {Do: api.MakeAttr, Name: s}, {Do: api.MakePi, Name: s}, {Do: api.Count, Text: s}, {Do: api.Literal, Attrs: []api.Pair{{Name: "a", Value: "b"}, {Name: "c", Value: s}}}} {
			refuse(t, api.ErrWord, body(i))
			refuse(t, api.ErrWord, globals(in(let("v", ""), i)))
		}
		for _, i := range []api.Instr{{Do: api.Words, Text: s}, let(s, "1"), {Do: api.Given, Name: s}, {Do: api.MakeComment, Name: s, Text: s}, {Do: api.Sort, Text: s}, {Do: api.Literal, Name: s, Attrs: []api.Pair{{Name: s}}}, {Do: api.Apply, Mode: s}} {
			refuse(t, api.OK, body(i))
		}
	}
	// What stands for something, and what is left out.
	refuse(t, api.OK, body(api.Instr{Do: api.ValueOf, Select: "p:a", Scope: scope}, api.Instr{Do: api.ValueOf}, api.Instr{Do: api.MakeElement}, api.Instr{Do: api.Literal, Attrs: []api.Pair{{}}}, api.Instr{Do: api.Count}))
	refuse(t, api.ErrPrefix, body(in(api.Instr{Do: api.If, Select: "p:a", Scope: scope}, valueOf("p:a"))))
	refuse(t, api.ErrPrefix, api.Sheet{Rules: []api.Rule{{Match: "a", Scope: scope, Body: []api.Instr{valueOf("p:a")}}}})
	refuse(t, api.ErrPrefix, api.Sheet{Rules: []api.Rule{{Match: "p:a", Body: []api.Instr{{Do: api.ValueOf, Select: "p:a", Scope: scope}}}}})
	refuse(t, api.OK, api.Sheet{Rules: []api.Rule{{Match: "p:a", Scope: scope}, {Name: "n"}, {}}})
	refuse(t, api.ErrWord, api.Sheet{Rules: []api.Rule{{Match: "a = b"}}})
	refuse(t, api.OK, body(valueOf("$nothing"), valueOf("count(1)"), valueOf("xml:a")))
}

func TestTemplatesThatAreNot(t *testing.T) { // P12.1: ErrName of a Template
	named := api.Rule{Name: "n"}
	refuse(t, api.ErrName, body(call("n")))
	refuse(t, api.ErrName, body(call("")))
	refuse(t, api.ErrName, api.Sheet{Rules: []api.Rule{named, {Body: []api.Instr{call("N")}}}})
	refuse(t, api.ErrName, api.Sheet{Rules: []api.Rule{named, {Body: []api.Instr{call("p:n")}}}})
	refuse(t, api.ErrName, api.Sheet{Rules: []api.Rule{{Match: "n", Mode: "n"}}, Globals: []api.Instr{let("n", ""), in(let("v", ""), call("n"))}})
	refuse(t, api.OK, api.Sheet{Rules: []api.Rule{{Match: "a", Body: []api.Instr{call("n")}}, named}})
	refuse(t, api.OK, api.Sheet{Rules: []api.Rule{{Name: "n", Body: []api.Instr{call("n")}}}})
	refuse(t, api.OK, api.Sheet{Rules: []api.Rule{named}, Globals: []api.Instr{in(let("v", ""), in(api.Instr{Do: api.If, Select: "1"}, call("n")))}})
	refuse(t, api.OK, body(api.Instr{Do: api.With, Name: "n"}, let("n", ""), api.Instr{Do: api.Apply, Mode: "n"}))
}

func TestOrderOfErrors(t *testing.T) { // P12.1: which is the first of several
	word, name, count := valueOf("["), valueOf("f()"), valueOf("not()")
	none, loop := call("none"), let("l", "$l")
	past := slices.Repeat([]api.Instr{{}}, api.MaxNodes+1)
	first := func(want api.Errno, s api.Sheet) {
		t.Helper()
		refuse(t, want, s)
	}
	// ErrLimit, ErrSheet, the others, ErrLoop.
	first(api.ErrLimit, api.Sheet{Rules: []api.Rule{{Match: "[", Body: past}}})
	first(api.ErrLimit, globals(slices.Concat([]api.Instr{word, {}}, past)...))
	first(api.ErrSheet, api.Sheet{Rules: []api.Rule{{Match: "[", Body: []api.Instr{word}}}, Globals: []api.Instr{loop, in(let("a", ""), api.Instr{})}})
	first(api.ErrWord, api.Sheet{Rules: []api.Rule{{Match: "["}}, Globals: []api.Instr{loop}})
	first(api.ErrWord, globals(loop, let("m", "[")))
	first(api.ErrName, globals(loop, none))
	first(api.ErrLoop, globals(loop))
	// Rule by rule, the Match ahead of the Body; then the globals.
	first(api.ErrName, api.Sheet{Rules: []api.Rule{{Match: "a[f()]", Body: []api.Instr{word}}, {Match: "["}}})
	first(api.ErrWord, api.Sheet{Rules: []api.Rule{{Match: "a", Body: []api.Instr{word}}, {Match: "a[f()]"}}})
	first(api.ErrCount, api.Sheet{Rules: []api.Rule{{Match: "a"}, {Match: "b", Body: []api.Instr{valueOf("1"), count}}}, Globals: []api.Instr{word}})
	first(api.ErrWord, api.Sheet{Rules: []api.Rule{{Body: []api.Instr{word}}}, Globals: []api.Instr{name}})
	first(api.ErrName, globals(name, word))
	first(api.ErrCount, globals(let("a", "1"), count, name))
	// Each instruction ahead of its Kids, and its Kids ahead of what stands behind it.
	first(api.ErrName, body(in(name, word), count))
	first(api.ErrWord, body(in(valueOf("1"), word), count))
	first(api.ErrCount, body(in(valueOf("1"), in(valueOf("1"), count), name), word))
	first(api.ErrName, body(in(none, word)))
	first(api.ErrWord, body(in(word, none)))
	// Its Name, Attrs, Text ahead of its Select.
	first(api.ErrWord, body(api.Instr{Do: api.MakeElement, Name: "{[}", Select: "f()"}))
	first(api.ErrName, body(api.Instr{Do: api.MakeElement, Name: "{f()}", Select: "["}))
	first(api.ErrWord, body(api.Instr{Do: api.MakeAttr, Name: "{", Select: "f()"}))
	first(api.ErrCount, body(api.Instr{Do: api.MakePi, Name: "{not()}", Select: "["}))
	first(api.ErrName, body(api.Instr{Do: api.Literal, Attrs: []api.Pair{{Name: "a", Value: "{f()}"}, {Name: "b", Value: "{["}}, Select: "["}))
	first(api.ErrCount, body(api.Instr{Do: api.Count, Text: "{not()}", Select: "["}))
	first(api.ErrName, body(api.Instr{Do: api.Template, Name: "none", Select: "["}))
	// In a text's template its own error, then expression by expression, each one's Parse ahead of its Compile.
	first(api.ErrWord, body(api.Instr{Do: api.Count, Text: "{f()}}"}))
	first(api.ErrName, body(api.Instr{Do: api.Count, Text: "{f()}{not()}{[}"}))
	first(api.ErrCount, body(api.Instr{Do: api.Count, Text: "{1}{not()}{f()}"}))
	first(api.ErrWord, body(valueOf("f(")))
}

func TestLimits(t *testing.T) { // P12.1: MaxRules, MaxDeep, MaxNodes
	refuse(t, api.OK, api.Sheet{Rules: make([]api.Rule, api.MaxRules)})
	refuse(t, api.ErrLimit, api.Sheet{Rules: make([]api.Rule, api.MaxRules+1)})
	chain := func(n int) api.Instr {
		i := valueOf("1")
		for range n - 1 {
			i = in(valueOf("1"), i)
		}
		return i
	}
	for n, want := range map[int]api.Errno{1: api.OK, api.MaxDeep: api.OK, api.MaxDeep + 1: api.ErrLimit, 1000: api.ErrLimit} {
		refuse(t, want, body(chain(n)))
		refuse(t, want, globals(chain(n)))
		refuse(t, want, body(valueOf("1"), in(valueOf("1"), valueOf("1"), chain(n-1+map[bool]int{true: 1}[n == 1]))))
		refuse(t, want, api.Sheet{Rules: []api.Rule{{}, {Body: []api.Instr{chain(n)}}}, Globals: []api.Instr{chain(2)}})
	}
	many := func(n int) []api.Instr { return slices.Repeat([]api.Instr{valueOf("1")}, n) }
	for n, want := range map[int]api.Errno{api.MaxNodes: api.OK, api.MaxNodes + 1: api.ErrLimit} {
		refuse(t, want, body(many(n)...))
		refuse(t, want, globals(many(n)...))
		refuse(t, want, body(in(valueOf("1"), many(n-1)...)))
		refuse(t, want, api.Sheet{Rules: []api.Rule{{Body: many(n - 20)}, {Body: many(10)}}, Globals: []api.Instr{in(let("v", ""), many(9)...)}})
	}
	// P1: lists that hold themselves.
	round := make([]api.Instr, 2)
	round[0], round[1] = valueOf("1"), valueOf("1")
	round[0].Kids, round[1].Kids = round, round
	refuse(t, api.ErrLimit, body(round...))
	refuse(t, api.ErrLimit, globals(round...))
	round[0].Kids = nil
	refuse(t, api.ErrLimit, body(valueOf("1"), in(valueOf("1"), round...)))
}

func TestNoDo(t *testing.T) { // P12.1: ErrSheet
	for _, do := range []api.Do{api.NoDo, -1, api.Sort + 1, math.MaxInt, math.MinInt} {
		i := api.Instr{Do: do}
		refuse(t, api.ErrSheet, body(i))
		refuse(t, api.ErrSheet, body(valueOf("1"), in(valueOf("1"), in(valueOf("1"), i))))
		refuse(t, api.ErrSheet, globals(let("v", "1"), i))
		refuse(t, api.ErrSheet, globals(in(let("v", ""), i)))
	}
	for do := api.Literal; do <= api.Sort; do++ {
		s := body(api.Instr{Do: do, Name: "n"})
		s.Rules[0].Name = "n"
		refuse(t, api.OK, s)
	}
}

func TestRules(t *testing.T) { // P12.2: Rules, Rule, Named
	p := compile(t, api.Sheet{Rules: []api.Rule{{Match: "a|b|@c", Name: "n"}, {Name: "m"}, {}, {Match: "p:a[1]", Scope: []api.Pair{{Name: "p", Value: "u"}}}, {Name: "n", Match: "a"}, {Name: "p:n", Match: "/"}, {Match: "c"}}})
	if p.Rules() != 7 {
		t.Error(p.Rules())
	}
	for i, want := range map[int]int{0: 3, 3: 1, 4: 1, 5: 1, 6: 1} {
		if got := p.Rule(i); got.Len() != want {
			t.Error(i, got.Len())
		}
	}
	for _, i := range []int{1, 2, -1, 7, 8, math.MaxInt, math.MinInt} {
		if p.Rule(i) != nil {
			t.Error(i)
		}
	}
	if p.Rule(3).Priority(0) != (api.Num{V: api.Places / 2}) || p.Rule(0).Priority(2) != (api.Num{}) {
		t.Error("priorities")
	}
	for name, want := range map[string]int{"n": 4, "m": 1, "p:n": 5} {
		if got, ok := p.Named(name); !ok || got != want {
			t.Error(name, got, ok)
		}
	}
	for _, name := range []string{"", "a", "N", "n ", "q:n", "\xff"} {
		if got, ok := p.Named(name); ok || got != 0 {
			t.Error(name, got, ok)
		}
	}
	if p := compile(t, api.Sheet{}); p.Rules() != 0 || p.Rule(0) != nil || len(p.Order()) != 0 {
		t.Error("an empty sheet")
	}
}

func TestNil(t *testing.T) { // P1, P12.2
	var p *xcode.Program
	if s := p.Sheet(); !reflect.DeepEqual(s, api.Sheet{}) {
		t.Error(s)
	}
	if p.Rules() != 0 || p.Rule(0) != nil || p.Rule(-1) != nil || len(p.Order()) != 0 {
		t.Error("a nil program")
	}
	if i, ok := p.Named("n"); i != 0 || ok {
		t.Error(i, ok)
	}
	for _, s := range []string{"1", "[", "", "q:a"} {
		if c, e := p.Code(s, nil); c != nil || e != api.ErrNil {
			t.Error(s, c, e)
		}
	}
}

// at is a place in a tree at which all of it can be asked.
func at() xeval.Context {
	return xeval.Context{Place: 1, Size: 1, Steps: api.MaxSteps, Names: []string{"v"}, Values: []api.Value{{Kind: api.Numbers, Num: xnum.Int(7)}}}
}

func TestCode(t *testing.T) { // P12.2 (E2): Code, of what the sheet has and of what it has not
	tree, _ := xdm.Parse("<a xmlns:p='u' xmlns:q='v'><p:b/><q:b/><b/></a>")
	u, v := []api.Pair{{Name: "p", Value: "u"}}, []api.Pair{{Name: "p", Value: "v"}}
	asked := []string{"1", "a/b", "count(//p:b)", "//p:b", "$v + 1", "name(//p:*)", "concat('a', \"b\")", "p:a|b", "count(*) = 1"}
	var l []api.Instr
	for _, s := range asked {
		l = append(l, api.Instr{Do: api.ValueOf, Select: s, Scope: u}, api.Instr{Do: api.Count, Text: "x{" + s + "}y", Scope: v})
	}
	full, empty := compile(t, body(l...)), compile(t, api.Sheet{})
	for _, s := range append(asked, "2", "//*", "string(//p:b)", " 1") {
		for _, scope := range [][]api.Pair{u, v, slices.Concat(v, u), {{Name: "q"}, {Name: "p", Value: "u"}}} {
			want, _ := xeval.Eval(tree, s, at(), scope)
			for _, p := range []*xcode.Program{full, empty} {
				code, e := p.Code(s, scope)
				if e != api.OK {
					t.Fatal(s, e)
				}
				got, steps, e := code.Run(tree, at())
				if e != api.OK || !reflect.DeepEqual(got, want) || steps == 0 {
					t.Error(s, scope, got, want, e)
				}
			}
		}
	}
	for s, want := range wrong() {
		for _, p := range []*xcode.Program{full, empty} {
			if c, e := p.Code(s, u); c != nil || e != want {
				t.Errorf("%.30q: %v, %d, want %d", s, c, e, want)
			}
		}
	}
	for _, p := range []*xcode.Program{full, empty} {
		if c, e := p.Code("", nil); c != nil || e != api.ErrWord {
			t.Error(c, e)
		}
		if c, e := p.Code("p:a", nil); c != nil || e != api.ErrPrefix {
			t.Error(c, e)
		}
		// A text's template is no expression, nor is what stands around it.
		if c, e := p.Code("x{1}y", u); c != nil || e == api.OK {
			t.Error(c, e)
		}
	}
}

func TestScopesApart(t *testing.T) { // P12.2: one text in scopes whose texts run together
	tree, _ := xdm.Parse("<a xmlns:p='u' xmlns:q='v'><p:b/><q:b/></a>")
	scopes := [][]api.Pair{
		{{Name: "p", Value: "u"}}, {{Name: "p", Value: "v"}}, {{Name: "p", Value: "u"}, {Name: "p", Value: "v"}}, {{Name: "p", Value: "v"}, {Name: "p", Value: "u"}},
		{{Name: "p", Value: "u\" \"p"}}, {{Name: "p", Value: "u\"\"p\"\"v"}}, {{Name: "p", Value: "uv"}}, {{Name: "pu", Value: "v"}, {Name: "p", Value: "v"}}, {{Name: "", Value: "pu"}, {Name: "p", Value: "v"}}, {{}, {Name: "p", Value: "u"}},
		{{Name: "p", Value: "\xff"}}, {{Name: "p", Value: "\ufffd"}}, {{Name: "p", Value: "\\xff"}},
	}
	var l []api.Instr
	for _, scope := range scopes {
		l = append(l, api.Instr{Do: api.ValueOf, Select: "count(//p:b[namespace-uri() = 'u'])", Scope: scope})
	}
	p := compile(t, body(l...))
	for _, i := range l {
		want, fault := xeval.Eval(tree, i.Select, at(), i.Scope)
		code, e := p.Code(i.Select, i.Scope)
		if e != api.OK || fault != api.OK {
			t.Fatal(i.Scope, e, fault)
		}
		if got, _, _ := code.Run(tree, at()); !reflect.DeepEqual(got, want) {
			t.Error(i.Scope, got, want)
		}
	}
}

func TestOrder(t *testing.T) { // P12.2, and the chapter's example
	kids := func(name string, l ...api.Instr) api.Instr { return in(let(name, ""), l...) }
	for want, s := range map[string]api.Sheet{
		"[]":        globals(),
		"[0]":       globals(let("a", "1")),
		"[1 0]":     globals(let("a", "$b"), let("b", "1")),
		"[0 1 2]":   globals(let("a", "1"), let("b", "2"), let("c", "3")),
		"[2 1 0]":   globals(let("a", "$b"), let("b", "$c"), let("c", "3")),
		"[1 0 2]":   globals(let("a", "$b"), let("b", "2"), let("c", "3")),
		"[2 0 1]":   globals(let("a", "$c + 1"), let("b", "$c[$a]"), let("c", "3")),
		"[1 2 0 3]": globals(let("a", "concat($c, $b)"), let("b", "1"), let("c", "$b"), let("d", "1")),
		"[1 3 0 2]": globals(let("a", "$d"), let("b", "1"), let("c", "$a"), api.Instr{Do: api.Given, Name: "d"}),
		"[0 2 1]":   globals(let("a", "$A"), let("b", "$p:a"), let("p:a", "$q:a")),
		"[1 0 3 2]": globals(kids("a", in(valueOf("1"), in(valueOf("1"), valueOf("/x[$b]")))), let("b", "$nothing"), let("c", "$d"), let("d", "1")),
		"[1 2 0]":   globals(kids("a", api.Instr{Do: api.Literal, Attrs: []api.Pair{{Name: "x", Value: "1{2}"}, {Name: "y", Value: "{$b}{$c}"}}}), let("b", "1"), let("c", "1")),
		"[2 1 3 0]": globals(kids("a", api.Instr{Do: api.MakeAttr, Name: "$c{$b}"}, api.Instr{Do: api.Count, Text: "{$d}"}), let("b", "$c"), let("c", "1"), let("d", "1")),
		// Texts that are no expressions name nothing; a variable of an instruction names nothing by being there, but is named all the same.
		"[0 1 2]\n": globals(kids("a", api.Instr{Do: api.Words, Text: "{$b}"}, let("b", "1"), api.Instr{Do: api.Literal, Attrs: []api.Pair{{Value: "$b{{$c}}"}}}), let("b", "'$c'"), let("c", "1")),
		"[1 0]\n":   globals(kids("a", let("b", "1"), valueOf("$b")), let("b", "1")),
		// What a template that is called needs is not asked for.
		"[0 1]": {Rules: []api.Rule{{Name: "n", Body: []api.Instr{valueOf("$b"), valueOf("$a")}}}, Globals: []api.Instr{kids("a", call("n")), let("b", "1")}},
		// Of one name all are needed.
		"[1 2 0]\n":   globals(let("a", "$b"), let("b", "1"), let("b", "2")),
		"[2 1 3 0]\n": globals(let("a", "$b"), let("b", "$c"), let("c", "2"), let("b", "2")),
	} {
		p := compile(t, s)
		if got := p.Order(); fmt.Sprint(got) != strings.TrimSpace(want) {
			t.Errorf("%v: %v, want %s", s, got, want)
		}
	}
}

func TestRounds(t *testing.T) { // P12.1: ErrLoop
	kids := func(name string, l ...api.Instr) api.Instr { return in(let(name, ""), l...) }
	for _, s := range []api.Sheet{
		globals(let("a", "$a")), globals(let("b", "1"), let("a", "1 + $a")), globals(let("a", "$b"), let("b", "$a")), globals(let("a", "$b"), let("b", "$c"), let("c", "$d[$a]"), let("d", "1")),
		globals(let("z", "$a"), let("a", "$b"), let("b", "$b")), globals(kids("a", valueOf("$a"))), globals(kids("a", in(valueOf("1"), api.Instr{Do: api.Literal, Attrs: []api.Pair{{Value: "{$b}"}}})), let("b", "$a")),
		globals(kids("a", let("a", "1"), valueOf("$a"))), globals(let("a", "1"), let("a", "$a")), globals(let("a", "$b"), let("b", "1"), let("b", "$a")), globals(api.Instr{Do: api.Given, Name: "p:a", Select: "$p:a"}),
		globals(kids("a", api.Instr{Do: api.MakeElement, Name: "{$a}"})), globals(kids("a", api.Instr{Do: api.Count, Text: "{'{'}{$a}"})),
	} {
		refuse(t, api.ErrLoop, s)
		refuse(t, api.ErrLoop, api.Sheet{Rules: []api.Rule{{Match: "a"}}, Globals: append(slices.Clone(s.Globals), let("y", "1"))})
	}
	refuse(t, api.OK, api.Sheet{Rules: []api.Rule{{Name: "n", Body: []api.Instr{call("n"), let("a", "$a")}}}, Globals: []api.Instr{kids("a", call("n"))}})
}

func TestSheet(t *testing.T) { // P12.2, P3, P12.3: the sheet, and the program's own copy of it
	make1 := func() api.Sheet {
		s, e := xsheet.Load("s", api.Resource{Name: "s", Text: "<x:stylesheet version='1' xmlns:x='http://www.w3.org/1999/XSL/Transform'><x:strip-space elements='a b'/><x:output method='text' encoding='utf-16'/><x:variable name='v'>t<o a='{$w}'><x:if test='1'>u</x:if></o></x:variable><x:variable name='w' select='1'/><x:template match='a' name='n' mode='m' priority='1'><x:param name='p'/><o a='b' c='{d}'><x:call-template name='n'/></o></x:template></x:stylesheet>"})
		if e != api.OK {
			t.Fatal(e)
		}
		return s
	}
	s, want := make1(), make1()
	rules := append(make([]api.Rule, 0, 4), s.Rules...)
	s.Rules = rules
	p := compile(t, s)
	if !reflect.DeepEqual(s, want) || !reflect.DeepEqual(rules[:4][1:], make([]api.Rule, 3)) {
		t.Error("what is handed in is changed")
	}
	if got := p.Sheet(); !reflect.DeepEqual(got, want) {
		t.Errorf("%+v, want %+v", got, want)
	}
	if fmt.Sprint(p.Order()) != "[1 0]" {
		t.Error(p.Order())
	}
	for _, one := range []api.Sheet{s, p.Sheet()} {
		spoil(one.Globals)
		for i := range one.Rules {
			spoil(one.Rules[i].Body)
			spoilPairs(one.Rules[i].Scope)
			one.Rules[i] = api.Rule{Match: "spoilt", Name: "spoilt"}
		}
		one.Strip[0] = "spoilt"
		p.Order()[0] = 9
		if got := p.Sheet(); !reflect.DeepEqual(got, want) {
			t.Fatalf("%+v, want %+v", got, want)
		}
	}
	if i, ok := p.Named("n"); !ok || i != 0 || p.Rule(0).Len() != 1 || fmt.Sprint(p.Order()) != "[1 0]" {
		t.Error(i, ok)
	}
	again := compile(t, p.Sheet())
	if !reflect.DeepEqual(again.Sheet(), want) || fmt.Sprint(again.Order()) != "[1 0]" || again.Rules() != 1 {
		t.Error("compiled again it is another one")
	}
	scope := []api.Pair{{Name: "p", Value: "u"}}
	p.Code("p:a", append(scope, api.Pair{}))
	if scope[0] != (api.Pair{Name: "p", Value: "u"}) {
		t.Error(scope)
	}
}

func spoilPairs(l []api.Pair) {
	for i := range l {
		l[i] = api.Pair{Name: "spoilt", Value: "spoilt"}
	}
}

func spoil(l []api.Instr) {
	for i := range l {
		spoil(l[i].Kids)
		spoilPairs(l[i].Attrs)
		spoilPairs(l[i].Scope)
		l[i] = api.Instr{Do: api.Words, Text: "spoilt"}
	}
}

func TestMoreRules(t *testing.T) { // P12.4
	tree, _ := xdm.Parse("<a xmlns:p='u'><p:b/><b/></a>")
	first := []api.Rule{
		{Match: "a|b", Name: "n", Body: []api.Instr{valueOf("count(//b)"), call("m")}},
		{Match: "p:b", Scope: []api.Pair{{Name: "p", Value: "u"}}, Body: []api.Instr{{Do: api.ValueOf, Select: "//p:b", Scope: []api.Pair{{Name: "p", Value: "u"}}}}},
		{Name: "m"},
	}
	more := []api.Rule{{Match: "b", Body: []api.Instr{valueOf("//b"), call("n")}}, {Match: "p:b", Scope: []api.Pair{{Name: "p", Value: "v"}}, Body: []api.Instr{{Do: api.ValueOf, Select: "//p:b", Scope: []api.Pair{{Name: "p", Value: "v"}}}}}, {}}
	one, two := compile(t, api.Sheet{Rules: first}), compile(t, api.Sheet{Rules: slices.Concat(first, more)})
	if two.Rules() != one.Rules()+len(more) {
		t.Error(two.Rules())
	}
	for i := range first {
		a, b := one.Rule(i), two.Rule(i)
		if (a == nil) != (b == nil) || a.Len() != b.Len() {
			t.Error(i)
		}
		for n := range tree.Len() {
			if !reflect.DeepEqual(a.Which(tree, n, nil, nil), b.Which(tree, n, nil, nil)) {
				t.Error(i, n)
			}
		}
		for _, x := range first[i].Body {
			if x.Select == "" {
				continue
			}
			c, _ := one.Code(x.Select, x.Scope)
			d, _ := two.Code(x.Select, x.Scope)
			v, _, e := c.Run(tree, at())
			w, _, f := d.Run(tree, at())
			if !reflect.DeepEqual(v, w) || e != f || e != api.OK {
				t.Error(x.Select, v, w)
			}
		}
	}
	for _, name := range []string{"n", "m", ""} {
		i, ok := one.Named(name)
		if j, also := two.Named(name); i != j || ok != also {
			t.Error(name, i, j)
		}
	}
	var none *xpattern.Pattern
	if two.Rule(2) != none || two.Rule(5) != none {
		t.Error("a rule without a Match")
	}
}
