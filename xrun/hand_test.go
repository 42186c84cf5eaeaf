package xrun_test

import (
	"math"
	"reflect"
	"slices"
	"testing"

	"stencil/api"
	"stencil/xcode"
	"stencil/xrun"
)

func words(s string) api.Instr { return api.Instr{Do: api.Words, Text: s} }

func valueOf(s string) api.Instr { return api.Instr{Do: api.ValueOf, Select: s} }

func do(what api.Do, of string, kids ...api.Instr) api.Instr {
	return api.Instr{Do: what, Select: of, Kids: kids}
}

func called(what api.Do, name, of string, kids ...api.Instr) api.Instr {
	return api.Instr{Do: what, Name: name, Select: of, Kids: kids}
}

// atTop is a sheet with a rule of the root, and other rules.
func atTop(body []api.Instr, others ...api.Rule) api.Sheet {
	return api.Sheet{Rules: append([]api.Rule{{Match: "/", Body: body}}, others...)}
}

func TestSheetsByHand(t *testing.T) { // P15.1: what stands where no stylesheet that is read has it
	no := valueOf("$none") // it has an error where it is looked at
	n := api.Rule{Name: "n", Match: "a", Body: []api.Instr{words("n"), called(api.Given, "v", "7"), valueOf("$v")}}
	for i, c := range []struct {
		want string
		fuel int
		body []api.Instr
	}{
		// When, Otherwise, With and Sort alone in a body do nothing.
		{"x", 1 + 5, []api.Instr{do(api.When, "$none", no), do(api.Otherwise, "$none", no), called(api.With, "v", "$none", no), do(api.Sort, "$none", no), words("x")}},
		{"x", 1 + 3, []api.Instr{called(api.Literal, "o", "", do(api.When, "1", no), words("x"))}},
		// Kids that are no Sort or With are not looked at.
		{"n7", 1 + 1 + 2 + 1 + 3 + 2, []api.Instr{do(api.Apply, "a", no, do(api.When, "$none"), called(api.Let, "v", "$none"))}},
		{"n8", 1 + 1 + 2 + 1 + 1 + 3 + 1, []api.Instr{do(api.Apply, "a", no, called(api.With, "v", "8"), no)}},
		{"n8", 1 + 1 + 1 + 3 + 1, []api.Instr{called(api.Template, "n", "$none", no, called(api.With, "v", "8"), do(api.Sort, "$none"))}},
		{"n7", 1 + 1 + 3 + 2, []api.Instr{called(api.Template, "n", "", no)}},
		{"xxn7", 1 + 1 + 2 + 1 + 1 + 1 + 3 + 2, []api.Instr{{Do: api.Words, Text: "x", Kids: []api.Instr{no}}, do(api.ValueOf, "'x'", no), do(api.Imports, "$none", no)}},
		{"", 1 + 1 + 1, []api.Instr{do(api.CopyOf, "''", no)}},
		// Choose looks at Whens and Otherwises as they come.
		{"o", 1 + 1 + 1, []api.Instr{do(api.Choose, "$none", no, do(api.Otherwise, "$none", words("o")), do(api.When, "1", words("w")))}},
		{"w", 1 + 1 + 1 + 1, []api.Instr{do(api.Choose, "", do(api.When, "1", words("w")), do(api.Otherwise, "", words("o")), do(api.Otherwise, "", words("p")))}},
		{"", 1 + 1 + 1, []api.Instr{do(api.Choose, "", no, do(api.When, "0", words("w")), no)}},
		{"", 1 + 1, []api.Instr{do(api.Choose, "")}},
		// Sorts anywhere among the Kids.
		{"12", 1 + 1 + 4 + 2 + 2*3, []api.Instr{do(api.ForEach, "a/b", valueOf("position()"), api.Instr{Do: api.Sort, Select: "position()", Text: "number", Flag: true})}},
		{"ba", 1 + 1 + 4 + 2 + 2*4, []api.Instr{do(api.ForEach, "a/b", valueOf("@i"), api.Instr{Do: api.Sort, Select: "position()", Text: "number", Flag: true})}},
		// A Text that is not number is text.
		{"12", 1 + 1 + 4 + 2 + 2*3, []api.Instr{do(api.ForEach, "a/b", api.Instr{Do: api.Sort, Select: "position()", Text: "Number"}, valueOf("position()"))}},
		// A Select counts more than Kids.
		{"1", 1 + 1 + 1 + 1 + 1, []api.Instr{called(api.Let, "v", "1", no), valueOf("$v")}},
		{"2", 1 + 1 + 1 + 1 + 1, []api.Instr{called(api.Given, "v", "2", no), valueOf("$v")}},
		{"n3", 1 + 1 + 1 + 3 + 1, []api.Instr{called(api.Template, "n", "", called(api.With, "v", "3", no))}},
		{"xy", 1 + 1 + 2 + 1 + 1, []api.Instr{called(api.Given, "v", "", words("x"), words("y")), valueOf("$v")}},
		// Fields that an instruction does not use.
		{"x", 1 + 1, []api.Instr{{Do: api.Words, Text: "x", Name: "1", Mode: "m", Flag: true, Select: "$none", Attrs: []api.Pair{{Name: "1", Value: "2"}}, Scope: []api.Pair{{}}}}},
	} {
		p := compile(t, atTop(c.body, n))
		a, e := xrun.Run(p, parse(t, "<a><b i='a'/><b i='b'/></a>"), api.MaxFuel)
		got := ""
		for _, x := range a.Tokens {
			got += x.Text
		}
		if e != api.OK || got != c.want {
			t.Errorf("%d: %s, %d, want %s", i, got, e, c.want)
		}
		if a.Fuel != c.fuel {
			t.Errorf("%d: fuel %d, want %d", i, a.Fuel, c.fuel)
		}
	}
}

func TestGivensAnywhere(t *testing.T) { // P15.1: what a With of its name hands in
	given := called(api.Given, "v", "7")
	x := parse(t, "<a><b/><b/></a>")
	hand := called(api.With, "v", "8")
	for _, c := range []struct {
		want string
		body []api.Instr
	}{
		{"8", []api.Instr{given, valueOf("$v")}},
		{"88", []api.Instr{do(api.ForEach, "//b", given, valueOf("$v"))}},
		{"18", []api.Instr{called(api.Let, "v", "1"), valueOf("$v"), given, valueOf("$v")}},
		{"8", []api.Instr{do(api.If, "1", do(api.If, "1", given, valueOf("$v")))}},
		{"7", []api.Instr{called(api.Template, "m", "")}},
		{"8", []api.Instr{called(api.Let, "w", "", given, valueOf("$v")), valueOf("$w")}},
	} {
		n := api.Rule{Name: "n", Body: c.body}
		m := api.Rule{Name: "m", Body: []api.Instr{given, valueOf("$v")}}
		expect(t, c.want, compile(t, atTop([]api.Instr{called(api.Template, "n", "", hand)}, n, m)), x)
	}
	// In a global nothing is handed in but by its own name from outside.
	s := atTop([]api.Instr{valueOf("$g")})
	s.Globals = []api.Instr{called(api.Let, "g", "", given, valueOf("$v"))}
	expect(t, "7", compile(t, s), x, api.Pair{Name: "v", Value: "9"})
}

func TestEmptySelects(t *testing.T) { // P15.1: what must be selected, and is not
	x := parse(t, "<a>x<b/></a>")
	one := func(i api.Instr) *xcode.Program { return compile(t, atTop([]api.Instr{i})) }
	for _, what := range []api.Do{api.ValueOf, api.CopyOf, api.ForEach, api.If} {
		refuse(t, api.ErrWord, one(do(what, "")), x)
	}
	refuse(t, api.ErrWord, one(do(api.Choose, "", do(api.When, ""))), x)
	refuse(t, api.ErrWord, load(t, rule("/", value(""))), x)
	expect(t, "w", one(do(api.Choose, "", do(api.When, "1", words("w")), do(api.When, ""))), x)
	expect(t, "", one(do(api.If, "0", do(api.ValueOf, ""))), x)
	// What need not be.
	expect(t, "x", one(do(api.Apply, "")), x)
	expect(t, "1", one(api.Instr{Do: api.Count, Text: "1"}), x)
	for _, what := range []api.Do{api.Let, api.Given} {
		expect(t, "true", compile(t, atTop([]api.Instr{called(what, "v", ""), valueOf("$v = '' and string-length($v) = 0")})), x)
	}
}

func TestLiteralsByHand(t *testing.T) { // P15.1: names and scopes that no stylesheet that is read has
	x := parse(t, "<a>x</a>")
	literal := func(name string, attrs, scope []api.Pair) *xcode.Program {
		return compile(t, atTop([]api.Instr{{Do: api.Literal, Name: name, Attrs: attrs, Scope: scope}}))
	}
	pairs := func(l ...string) []api.Pair {
		var all []api.Pair
		for i := 0; i < len(l); i += 2 {
			all = append(all, api.Pair{Name: l[i], Value: l[i+1]})
		}
		return all
	}
	for _, c := range []struct {
		want         string
		name         string
		attrs, scope []api.Pair
	}{
		{`<o/>`, "o", nil, nil},
		{`<o xmlns="u"/>`, "o", nil, pairs("", "u")},
		{`<p:o xmlns:p="u"/>`, "p:o", nil, pairs("p", "u")},
		// Declarations are no attributes, whatever they say.
		{`<o q="x"/>`, "o", pairs("xmlns", "u", "xmlns:p", "{$none}", "q", "{a}"), nil},
		{`<o xmlnsq="1"/>`, "o", pairs("xmlnsq", "1"), nil},
		{`<o xml:q="1"/>`, "o", pairs("xml:q", "1"), nil},
		// The last one of a name is it.
		{`<o q="2"/>`, "o", pairs("q", "1", "q", "2"), nil},
		// Of a prefix the first one counts.
		{`<p:o xmlns:p="u" p:q="1"/>`, "p:o", pairs("p:q", "1"), pairs("p", "u", "p", "v")},
		// A name may be of the Uri of stylesheets; then it is declared as any other one.
		{`<p:o xmlns:p="http://www.w3.org/1999/XSL/Transform"/>`, "p:o", nil, pairs("p", "http://www.w3.org/1999/XSL/Transform")},
		{`<o/>`, "o", nil, pairs("p", "http://www.w3.org/1999/XSL/Transform")},
		{`<o/>`, "o", nil, pairs("", "")},
		{`<xml:o/>`, "xml:o", nil, nil},
		{`<o/>`, "o", nil, pairs("xml", "http://www.w3.org/XML/1998/namespace")},
	} {
		expect(t, c.want, literal(c.name, c.attrs, c.scope), x)
	}
	for _, c := range []struct {
		want         api.Errno
		name         string
		attrs, scope []api.Pair
	}{
		{api.ErrForm, "", nil, nil},
		{api.ErrForm, "1", nil, nil},
		{api.ErrForm, "p:q:o", nil, pairs("p", "u")},
		{api.ErrPrefix, "p:o", nil, nil},
		{api.ErrPrefix, "p:o", nil, pairs("p", "")},
		{api.ErrPrefix, "p:o", nil, pairs("p", "", "p", "u")},
		{api.ErrPrefix, "xmlns:o", nil, nil},
		{api.ErrForm, "xmlns:o", nil, pairs("xmlns", "u")},
		{api.ErrForm, "o", pairs("1", ""), nil},
		{api.ErrForm, "o", pairs("", ""), nil},
		{api.ErrPrefix, "o", pairs("p:q", ""), nil},
		{api.ErrForm, "o", pairs("q", "\x00"), nil},
		{api.ErrForm, "o", nil, pairs("1", "u")},
		{api.ErrForm, "o", nil, pairs("p", "")},
		{api.ErrForm, "o", nil, pairs("xml", "u")},
		{api.ErrForm, "o", nil, pairs("p", "\xff")},
		// The name, then the scope, then the attributes.
		{api.ErrPrefix, "p:o", pairs("1", ""), pairs("1", "u")},
		{api.ErrForm, "o", pairs("p:q", ""), pairs("1", "u")},
		{api.ErrPrefix, "o", pairs("p:q", "{$none}"), nil},
		{api.ErrName, "o", pairs("q", "{$none}", "1", ""), nil},
	} {
		refuse(t, c.want, literal(c.name, c.attrs, c.scope), x)
	}
	// Texts that may not be.
	refuse(t, api.ErrForm, compile(t, atTop([]api.Instr{words("\x00")})), x)
	refuse(t, api.ErrForm, compile(t, atTop([]api.Instr{words("\xff")})), x)
}

func TestGlobalsByHand(t *testing.T) { // P15.1: globals that no stylesheet that is read has
	x := parse(t, "<a>x</a>")
	s := atTop([]api.Instr{valueOf("concat($v, $w)")})
	s.Globals = []api.Instr{called(api.Let, "v", "1"), called(api.Given, "v", "2"), called(api.Given, "w", "3"), called(api.Let, "w", "4")}
	expect(t, "13", compile(t, s), x)
	expect(t, "18", compile(t, s), x, api.Pair{Name: "v", Value: "9"}, api.Pair{Name: "w", Value: "8"})
	// What is neither of the two has its value likewise.
	s.Globals = []api.Instr{called(api.Literal, "v", "5"), called(api.Copy, "w", "", words("6"))}
	expect(t, "56", compile(t, s), x, api.Pair{Name: "v", Value: "9"})
}

func TestFuelOfGlobalsByHand(t *testing.T) { // P15.1: each one takes one, of one name too, and whatever it is
	x := parse(t, "<a/>")
	for i, c := range []struct {
		want    int
		globals []api.Instr
	}{
		{1, nil},
		{1 + 4*(1+1), []api.Instr{called(api.Let, "v", "1"), called(api.Given, "v", "2"), called(api.Given, "w", "3"), called(api.Let, "w", "4")}},
		{1 + (1 + 1) + (1 + 1), []api.Instr{called(api.Literal, "v", "5"), called(api.Copy, "w", "", words("6"))}},
		{1 + 1, []api.Instr{called(api.When, "v", "")}},
		{1 + 1000, slices.Repeat([]api.Instr{called(api.Let, "v", "")}, 1000)},
	} {
		s := atTop(nil)
		s.Globals = c.globals
		p := compile(t, s)
		if a, e := xrun.Run(p, x, c.want); e != api.OK || a.Fuel != c.want {
			t.Errorf("%d: %+v, %d, want %d", i, a, e, c.want)
		}
		if _, e := xrun.Run(p, x, c.want-1); e != api.ErrFuel {
			t.Errorf("%d: %d with too little", i, e)
		}
	}
}

func TestRulesByHand(t *testing.T) { // P15.1: levels and priorities that no stylesheet that is read has
	x := parse(t, "<a>x</a>")
	num := func(kind api.NumKind, v int64) api.Num { return api.Num{Kind: kind, V: v} }
	type given struct {
		level int
		own   bool
		num   api.Num
	}
	for i, c := range []struct {
		want  string
		rules []given
	}{
		{"1", []given{{level: -1}, {level: 0}}},
		{"2", []given{{level: math.MaxInt}, {level: math.MinInt}}},
		{"2", []given{{level: 0}, {level: -5}, {level: 9}}},
		{"2", []given{{num: num(api.Fin, 0), own: true}, {num: num(api.PlusInf, 0), own: true}, {num: num(api.Fin, api.MaxNum), own: true}}},
		{"1", []given{{num: num(api.MinusInf, 0), own: true}, {num: num(api.NaN, 0), own: true}}},
		{"1", []given{{}, {num: num(api.NaN, 0), own: true}}},
		{"2", []given{{num: num(api.NaN, 0), own: true}, {num: num(api.NaN, 0), own: true}}},
		// A priority that is not its own plays no part.
		{"2", []given{{num: num(api.PlusInf, 0)}, {}}},
	} {
		s := atTop([]api.Instr{do(api.Apply, "a")})
		for j, g := range c.rules {
			s.Rules = append(s.Rules, api.Rule{Match: "a", Level: g.level, Own: g.own, Priority: g.num, Body: []api.Instr{words(string(rune('1' + j)))}})
		}
		t.Run(c.want, func(t *testing.T) {
			a, e := xrun.Run(compile(t, s), x, 1000)
			if e != api.OK || told(t, a) != c.want {
				t.Errorf("%d: %+v, %d, want %s", i, a, e, c.want)
			}
		})
	}
	// Of the greatest level none is greater.
	s := atTop([]api.Instr{do(api.Imports, "")}, api.Rule{Match: "/", Level: math.MaxInt, Body: []api.Instr{words("("), do(api.Imports, ""), words(")")}})
	s.Rules[0].Level = math.MinInt
	expect(t, "(x)", compile(t, s), x)
	// A rule without a match, though it has a mode, matches nothing.
	s = atTop([]api.Instr{{Do: api.Apply, Mode: "m"}}, api.Rule{Mode: "m", Body: []api.Instr{words("none")}})
	expect(t, "x", compile(t, s), x)
}

func TestListsAreTheCallers(t *testing.T) { // P3: nothing that is handed in or answered is shared
	p := load(t, "<x:param name='v'/>"+rule("/", "<x:message>m</x:message><o p='1' q='{$v}' xmlns:r='u'>x</o><x:message>n</x:message>"))
	x := parse(t, "<a/>")
	sheet, nodes := p.Sheet(), x.Nodes()
	params := []api.Pair{{Name: "v", Value: "1"}, {Name: "spare", Value: "room"}}
	kept := slices.Clone(params)
	first, e := xrun.Run(p, x, 100, params[:1]...)
	if e != api.OK || !slices.Equal(params, kept) {
		t.Fatal(params, e)
	}
	want := told(t, first)
	again, _ := xrun.Run(p, x, 100, params[:1]...)
	for _, a := range []xrun.Answer{first} {
		for i := range a.Tokens {
			for j := range a.Tokens[i].Attrs {
				a.Tokens[i].Attrs[j] = api.Pair{Name: "changed"}
			}
			_ = append(a.Tokens[i].Attrs, api.Pair{Name: "more"})
			a.Tokens[i] = api.Token{}
		}
		a.Messages[0] = "changed"
		_ = append(a.Messages, "more")
		_ = append(a.Tokens, api.Token{Kind: api.Pi})
	}
	params[0].Value = "2"
	if got := told(t, again); got != want || !reflect.DeepEqual(p.Sheet(), sheet) || !reflect.DeepEqual(x.Nodes(), nodes) {
		t.Error(got, want)
	}
	third, _ := xrun.Run(p, x, 100, kept[0])
	if got := told(t, third); got != want {
		t.Error(got, want)
	}
	// Of ErrStop likewise.
	p = load(t, rule("/", "<x:message>m</x:message><x:message terminate='yes'>n</x:message>"))
	a, _ := xrun.Run(p, x, 100)
	a.Messages[0] = "changed"
	refuse(t, api.ErrStop, p, x, "m", "n")
}
