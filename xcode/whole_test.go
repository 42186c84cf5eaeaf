package xcode_test

import (
	"fmt"
	"math/rand"
	"reflect"
	"slices"
	"strings"
	"testing"

	"stencil/api"
	"stencil/xcode"
	"stencil/xeval"
	"stencil/xparse"
	"stencil/xpattern"
	"stencil/xsheet"
)

// maker makes sheets by chance.
type maker struct {
	*rand.Rand
	odds int // one in so many texts is wrong; 0: none
}

func (m maker) pick(l ...string) string { return l[m.Intn(len(l))] }

func (m maker) isWrong() bool { return m.odds > 0 && m.Intn(m.odds) == 0 }

func (m maker) expression() string {
	if m.isWrong() {
		return m.pick("[", "a b", "f()", "q:a", "not()", "\x00", strings.Repeat("-", 40)+"1")
	}
	return m.pick("1", "a/b", "$a", "$b", "$c", "concat($d, $e)", "//p:a", "count(*[$f])", ".", "'$a'", "$g + $local", "true()", "string()", "@a")
}

func (m maker) template() string {
	if m.isWrong() {
		return m.pick("{", "}", "a{}", "{'}")
	}
	s := ""
	for range m.Intn(4) {
		s += m.pick("x", "{{", "}}", "", "{"+m.expression()+"}")
	}
	return s
}

func (m maker) scope() []api.Pair {
	return [][]api.Pair{{{Name: "p", Value: "u"}}, {{Name: "p", Value: "v"}}, {{Name: "p", Value: "u"}, {Name: "r", Value: "w"}}}[m.Intn(3)]
}

func (m maker) instr(deep int) api.Instr {
	i := api.Instr{Do: api.Do(1 + m.Intn(int(api.Sort))), Name: m.pick("n", "m"), Scope: m.scope()}
	if m.isWrong() {
		i.Name = "none"
	}
	if m.Intn(2) == 0 {
		i.Select = m.expression()
	}
	switch i.Do {
	case api.MakeElement, api.MakeAttr, api.MakePi:
		i.Name = m.template()
	case api.Count:
		i.Text = m.template()
	case api.Literal:
		for range m.Intn(3) {
			i.Attrs = append(i.Attrs, api.Pair{Name: "a", Value: m.template()})
		}
	}
	for deep > 0 && m.Intn(2) == 0 {
		i.Kids = append(i.Kids, m.instr(deep-1))
	}
	return i
}

func (m maker) sheet() api.Sheet {
	s := api.Sheet{Rules: []api.Rule{{Name: "n", Match: "a"}, {Name: "m"}}}
	for range m.Intn(4) {
		r := api.Rule{Match: m.pick("", "a", "p:a|b", "a[$a]"), Name: m.pick("", "", "n", "k"), Scope: m.scope()}
		if m.isWrong() {
			r.Match = m.pick("[", "..", "q:a", "a[f()]", "a[not()]")
		}
		for range m.Intn(3) {
			r.Body = append(r.Body, m.instr(3))
		}
		s.Rules = append(s.Rules, r)
	}
	for i := range m.Intn(5) {
		g := m.instr(2)
		g.Do, g.Name = api.Let, string(rune('a'+i))
		if m.Intn(2) == 0 {
			g.Select = m.pick("1", "$a", "$b", "$c", "$d")
		}
		s.Globals = append(s.Globals, g)
	}
	return s
}

// asked is one thing that is compiled: an error that is known, or an expression.
type asked struct {
	fault api.Errno
	text  string
	scope []api.Pair
}

// list is all that is compiled of instructions, in order.
func list(s api.Sheet, l []api.Instr) []asked {
	var all []asked
	for _, i := range l {
		if i.Do == api.Template && !slices.ContainsFunc(s.Rules, func(r api.Rule) bool { return r.Name == i.Name }) {
			all = append(all, asked{fault: api.ErrName})
		}
		var texts []string
		switch i.Do {
		case api.MakeElement, api.MakeAttr, api.MakePi:
			texts = []string{i.Name}
		case api.Literal:
			for _, a := range i.Attrs {
				texts = append(texts, a.Value)
			}
		case api.Count:
			texts = []string{i.Text}
		}
		for _, text := range texts {
			parts, fault := xsheet.Text(text)
			all = append(all, asked{fault: fault, text: "1"})
			for j := 1; j < len(parts); j += 2 {
				all = append(all, asked{text: parts[j], scope: i.Scope})
			}
		}
		if i.Select != "" {
			all = append(all, asked{text: i.Select, scope: i.Scope})
		}
		all = append(all, list(s, i.Kids)...)
	}
	return all
}

// firstFault is that of all that is compiled.
func firstFault(s api.Sheet) api.Errno {
	check := func(l []asked) api.Errno {
		for _, x := range l {
			if x.fault != api.OK {
				return x.fault
			}
			e, fault := xparse.Parse(x.text)
			if fault == api.OK {
				_, fault = xeval.Compile(e, x.scope)
			}
			if fault != api.OK {
				return fault
			}
		}
		return api.OK
	}
	for _, r := range s.Rules {
		if r.Match != "" {
			if _, fault := xpattern.Compile(r.Match, r.Scope); fault != api.OK {
				return fault
			}
		}
		if fault := check(list(s, r.Body)); fault != api.OK {
			return fault
		}
	}
	if fault := check(list(s, s.Globals)); fault != api.OK {
		return fault
	}
	if _, ok := orderOf(s); !ok {
		return api.ErrLoop
	}
	return api.OK
}

// needed tells by the texts whether one global's expressions name another one.
func needed(s api.Sheet, by, other int) bool {
	g := s.Globals[by]
	for _, x := range append(list(s, g.Kids), asked{text: g.Select}) {
		e, _ := xparse.Parse(x.text)
		if slices.Contains(xparse.Names(e), s.Globals[other].Name) {
			return true
		}
	}
	return false
}

// orderOf asks for the first one each time, by the chapter's words.
func orderOf(s api.Sheet) ([]int, bool) {
	order := []int{}
	for len(order) < len(s.Globals) {
		next := -1
		for i := range s.Globals {
			ready := !slices.Contains(order, i)
			for j := range s.Globals {
				ready = ready && (slices.Contains(order, j) || !needed(s, i, j))
			}
			if ready {
				next = i
				break
			}
		}
		if next < 0 {
			return nil, false
		}
		order = append(order, next)
	}
	return order, true
}

func TestMeaning(t *testing.T) { // P12.1, P12.2, P12.3 (E2): sheets by chance, against other rules
	seen := map[api.Errno]int{}
	m := maker{Rand: rand.New(rand.NewSource(7))}
	for n := range 6000 {
		m.odds = []int{0, 20, 60}[n%3]
		s := m.sheet()
		kept := fmt.Sprintf("%#v", s)
		p, e := xcode.Compile(s)
		if want := firstFault(s); e != want || (p == nil) != (want != api.OK) {
			t.Fatalf("%+v: %d, want %d", s, e, want)
		}
		if fmt.Sprintf("%#v", s) != kept {
			t.Fatal("what is handed in is changed")
		}
		seen[e]++
		if e != api.OK {
			continue
		}
		want, _ := orderOf(s)
		if got := p.Order(); fmt.Sprint(got) != fmt.Sprint(want) {
			t.Fatalf("%+v: %v, want %v", s.Globals, got, want)
		}
		for i, r := range s.Rules {
			if (p.Rule(i) == nil) != (r.Match == "") {
				t.Fatal(i, r)
			}
			j, ok := p.Named(r.Name)
			if ok != (r.Name != "") || ok && (s.Rules[j].Name != r.Name || j < i) {
				t.Fatal(r.Name, i, j)
			}
		}
		again, e := xcode.Compile(p.Sheet())
		if e != api.OK || !reflect.DeepEqual(again.Sheet(), p.Sheet()) || !reflect.DeepEqual(p.Sheet(), s) || !slices.Equal(again.Order(), p.Order()) {
			t.Fatalf("%+v", s)
		}
		// P12.4
		more := s
		more.Rules = append(slices.Clone(s.Rules), api.Rule{Match: "z", Body: []api.Instr{call("n"), valueOf("$z")}}, api.Rule{})
		other, e := xcode.Compile(more)
		if e != api.OK || other.Rules() != p.Rules()+2 || !slices.Equal(other.Order(), p.Order()) {
			t.Fatalf("%+v: %d", more, e)
		}
		for _, x := range list(s, s.Rules[len(s.Rules)-1].Body) {
			if x.scope == nil {
				continue
			}
			a, e := p.Code(x.text, x.scope)
			b, f := other.Code(x.text, x.scope)
			if e != api.OK || f != api.OK || a == nil || b == nil {
				t.Fatal(x, e, f)
			}
		}
	}
	for _, e := range []api.Errno{api.OK, api.ErrLoop, api.ErrWord, api.ErrName, api.ErrPrefix, api.ErrCount, api.ErrChar, api.ErrLimit} {
		if seen[e] < 20 {
			t.Error("too few of", e, seen)
		}
	}
}

func TestOrders(t *testing.T) { // P12.2, P12.3: what globals need, by chance, and many of them
	chance := rand.New(rand.NewSource(8))
	rounds := 0
	for range 3000 {
		var s api.Sheet
		count := chance.Intn(9)
		names := chance.Perm(count + 1)
		for i := range count {
			g := let(fmt.Sprint("v", names[i]), "1")
			for range chance.Intn(3) {
				need := valueOf(fmt.Sprint("$v", chance.Intn(count+1)))
				if chance.Intn(2) == 0 {
					g.Select += " + " + need.Select
				} else {
					g.Kids = append(g.Kids, need)
				}
			}
			s.Globals = append(s.Globals, g)
		}
		p, e := xcode.Compile(s)
		want, ok := orderOf(s)
		if !ok {
			rounds++
		}
		if ok != (e == api.OK) || !ok && e != api.ErrLoop || ok && fmt.Sprint(p.Order()) != fmt.Sprint(want) {
			t.Fatalf("%+v: %v, %d, want %v", s.Globals, p.Order(), e, want)
		}
	}
	if rounds < 500 || rounds > 2500 {
		t.Error("too few, or too many, rounds", rounds)
	}
	// As many as there may be, each needing the one behind it.
	var long api.Sheet
	for i := range api.MaxNodes {
		long.Globals = append(long.Globals, let(fmt.Sprint("v", i), fmt.Sprint("$v", i+1)))
	}
	order := compile(t, long).Order()
	for i, place := range order {
		if place != api.MaxNodes-1-i {
			t.Fatal(i, place)
		}
	}
	long.Globals[api.MaxNodes-1].Select = "$v0"
	refuse(t, api.ErrLoop, long)
}

func TestOddSheets(t *testing.T) { // P1: fields of any kind
	chance := rand.New(rand.NewSource(9))
	texts := []string{"", "a", "n", "[", "{", "{a}", "\x00", "\xff", "$a", "p:a", strings.Repeat("(", 600), strings.Repeat("{a}", 300)}
	text := func() string { return texts[chance.Intn(len(texts))] }
	pairs := func() []api.Pair {
		var l []api.Pair
		for range chance.Intn(3) {
			l = append(l, api.Pair{Name: text(), Value: text()})
		}
		return l
	}
	var instrs func(deep int) []api.Instr
	instrs = func(deep int) []api.Instr {
		var l []api.Instr
		for range chance.Intn(3) {
			i := api.Instr{Do: api.Do(chance.Intn(int(api.Sort)) + 1), Flag: chance.Intn(2) == 0, Attrs: pairs(), Scope: pairs()}
			for _, field := range []*string{&i.Name, &i.Select, &i.Mode, &i.Text} {
				if chance.Intn(3) == 0 {
					*field = text()
				}
			}
			if chance.Intn(50) == 0 {
				i.Do = api.Do(chance.Intn(60) - 20)
			}
			if deep > 0 {
				i.Kids = instrs(deep - 1)
			}
			l = append(l, i)
		}
		return l
	}
	right := 0
	for range 20000 {
		s := api.Sheet{Globals: instrs(2), Strip: []string{text()}, Method: api.Method(chance.Intn(9) - 4), Wide: chance.Intn(2) == 0}
		for range chance.Intn(3) {
			r := api.Rule{Name: text(), Mode: text(), Own: true, Priority: api.Num{Kind: 9, V: -1 << 63}, Level: -chance.Intn(9), Body: instrs(2), Scope: pairs()}
			if chance.Intn(2) == 0 {
				r.Match = text()
			}
			s.Rules = append(s.Rules, r)
		}
		p, e := xcode.Compile(s)
		if (p == nil) == (e == api.OK) || e < api.OK || e > api.ErrMark {
			t.Fatalf("%+v: %v, %d", s, p, e)
		}
		if e == api.OK {
			right++
			if !reflect.DeepEqual(p.Sheet(), s) || len(p.Order()) != len(s.Globals) || p.Rules() != len(s.Rules) {
				t.Fatalf("%+v, want %+v", p.Sheet(), s)
			}
			p.Code(text(), pairs())
		}
	}
	if right < 500 {
		t.Error("too few are right", right)
	}
}
