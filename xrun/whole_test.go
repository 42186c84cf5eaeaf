package xrun_test

import (
	"fmt"
	"math/rand"
	"reflect"
	"strings"
	"testing"

	"stencil/api"
	"stencil/xcode"
	"stencil/xdm"
	"stencil/xmlscan"
	"stencil/xout"
	"stencil/xrun"
)

// maker makes sheets, documents and expressions by chance.
type maker struct {
	*rand.Rand
	odds int // one in so many texts is wrong; 0: none
}

func (m maker) pick(l ...string) string { return l[m.Intn(len(l))] }

func (m maker) isWrong() bool { return m.odds > 0 && m.Intn(m.odds) == 0 }

func (m maker) nodes() string {
	if m.isWrong() {
		return m.pick("$none", "1", "$v | 1", "'a'", "//a[count(1)]")
	}
	return m.pick("*", "node()", "@*", "@*|node()", "//a", "//p:b", "..", ".", "//text()", "*[1]", "/", "a|b", "following::node()[1]", "//*[position() mod 2 = 0]", "comment()", "$g")
}

func (m maker) expression() string {
	if m.isWrong() {
		return m.pick("$none", "count(1)", "format-number(1, '')", "$none = 1", "string(//a[$none])")
	}
	return m.pick("1", "2", "0", "'x'", "''", ".", "name()", "position()", "last()", "concat(name(), position())", "$v", "$w", "$g", "$h", "count(*)", "position() = 1", "@i", "string-length(.)", "$v = 1", "-1", "0.5", "//a", "not(*)")
}

func (m maker) template(name bool) string {
	if m.isWrong() {
		return m.pick("", "1", "p:", "q:a", "q:{1}", "q:b", "a:b:c", "xml", "xmlns", "{$none}", "{1}", "--")
	}
	if name && m.isWrong() {
		return m.pick("q:a", "1{.}", "p:{1}", "q:{name()}")
	}
	if name {
		return m.pick("a", "b", "p:b", "c{position()}", "{'b'}", "p:{'a'}", "xml:d", "e")
	}
	return m.pick("", "x", "{.}", "{{{position()}}}", "{$v}{$w}", "y{name()}")
}

func (m maker) scope() []api.Pair {
	return [][]api.Pair{
		{{Name: "p", Value: "u"}},
		{{Name: "", Value: "w"}, {Name: "p", Value: "u"}},
		{{Name: "p", Value: "v"}, {Name: "r", Value: "u"}},
		{{Name: "p", Value: "u"}, {Name: "x", Value: "http://www.w3.org/1999/XSL/Transform"}},
	}[m.Intn(4)]
}

func (m maker) instrs(most, deep int) []api.Instr {
	var l []api.Instr
	for range m.Intn(most + 1) {
		l = append(l, m.instr(deep))
	}
	return l
}

func (m maker) instr(deep int) api.Instr {
	i := api.Instr{Do: api.Do(1 + m.Intn(int(api.Sort))), Scope: m.scope(), Flag: m.odds > 0 && m.Intn(8) == 0}
	if deep == 0 {
		i.Do = []api.Do{api.Words, api.ValueOf, api.Count, api.CopyOf, api.Copy, api.Let, api.Imports}[m.Intn(7)]
	}
	if deep > 0 {
		i.Kids = m.instrs(3, deep-1)
	}
	switch i.Do {
	case api.Literal:
		i.Name = m.pick("o", "p:o", "i")
		for range m.Intn(3) {
			i.Attrs = append(i.Attrs, api.Pair{Name: m.pick("i", "j", "p:i", "xmlns", "xmlns:r"), Value: m.template(false)})
		}
	case api.Words:
		i.Text = m.pick("x", " ", "y<")
	case api.ValueOf, api.If, api.When, api.CopyOf:
		i.Select = m.pick(m.expression(), m.expression(), m.nodes())
	case api.Apply, api.ForEach:
		i.Select, i.Mode = m.nodes(), m.pick("", "", "m")
		if i.Do == api.Apply && m.Intn(2) == 0 {
			i.Select = ""
		}
		i.Kids = append(i.Kids, m.asides(i.Do == api.Apply, deep)...)
	case api.Template:
		i.Name = m.pick("n", "k")
		i.Kids = append(i.Kids, m.asides(true, deep)...)
	case api.Choose:
		for range m.Intn(3) {
			i.Kids = append(i.Kids, api.Instr{Do: api.When, Select: m.expression(), Kids: m.instrs(2, max(deep-1, 0)), Scope: m.scope()})
		}
		i.Kids = append(i.Kids, api.Instr{Do: api.Otherwise, Kids: m.instrs(2, max(deep-1, 0))})
	case api.Let, api.Given, api.With:
		i.Name = m.pick("v", "w", "g")
		if m.Intn(2) == 0 {
			i.Select = m.pick(m.expression(), m.nodes())
		}
	case api.MakeElement, api.MakeAttr, api.MakePi:
		i.Name = m.template(true)
		if i.Do == api.MakePi {
			i.Name = m.pick("p", "q{position()}", i.Name)
		}
	case api.Count:
		i.Text = m.pick("1", "a", "I", "{'01'}")
		if m.Intn(2) == 0 {
			i.Select = m.pick("1", "position()", "count(//*)", "2.5", m.expression())
		}
		if m.isWrong() {
			i.Text = m.template(false)
		}
	}
	return i
}

// asides are Sorts, and, if they are asked for, Withs.
func (m maker) asides(withs bool, deep int) []api.Instr {
	var l []api.Instr
	for range m.Intn(3) {
		l = append(l, api.Instr{Do: api.Sort, Select: m.pick("", ".", "name()", "@i", m.expression()), Text: m.pick("text", "number"), Flag: m.Intn(2) == 0, Scope: m.scope()})
	}
	for withs && m.Intn(2) == 0 {
		l = append(l, api.Instr{Do: api.With, Name: m.pick("v", "w"), Select: m.pick("", m.expression()), Kids: m.instrs(2, max(deep-1, 0)), Scope: m.scope()})
	}
	return l
}

func (m maker) sheet() api.Sheet {
	s := api.Sheet{Rules: []api.Rule{{Name: "n", Body: m.ruleBody()}, {Name: "k", Match: m.pick("", "a"), Body: m.ruleBody()}}}
	for range 1 + m.Intn(5) {
		s.Rules = append(s.Rules, api.Rule{
			Match: m.pick("a", "b", "p:b", "*", "node()", "@*|node()", "@i", "a/b", "a//b", "/", "text()", "a[$g]", "*[position() = $h]", "comment()|processing-instruction()", "//a|b"),
			Mode:  m.pick("", "", "m"), Own: m.Intn(4) == 0, Priority: api.Num{V: int64(m.Intn(5)-2) * api.Places / 4},
			Level: m.Intn(3), Body: m.ruleBody(), Scope: m.scope(),
		})
	}
	for _, name := range []string{"g", "h"} {
		g := api.Instr{Do: api.Let, Name: name, Select: m.pick("", "1", "/*", "//a", "'x'"), Scope: m.scope()}
		if m.Intn(2) == 0 {
			g.Do = api.Given
		}
		if g.Select == "" {
			g.Kids = m.instrs(2, 2)
		}
		s.Globals = append(s.Globals, g)
	}
	if m.Intn(4) == 0 {
		s.Strip = []string{m.pick("*", "a", "{u}b")}
	}
	return s
}

// ruleBody binds v and w first, so that most expressions find what they name.
func (m maker) ruleBody() []api.Instr {
	head := []api.Instr{{Do: api.Given, Name: "v", Select: m.pick("", "1", "position()", ".")}, {Do: api.Given, Name: "w", Select: m.pick("", "'y'", "name()")}}
	return append(head, m.instrs(4, 3)...)
}

func (m maker) content(deep int) string {
	s := ""
	for range m.Intn(4) {
		switch k := m.Intn(6); {
		case k == 0:
			s += m.pick("x", " ", "1&lt;", "<![CDATA[2]]>")
		case k == 1:
			s += m.pick("<!--c-->", "<?p q?>", "<?s?>")
		case deep > 0:
			s += m.element(deep - 1)
		}
	}
	return s
}

func (m maker) element(deep int) string {
	name := m.pick("a", "b", "p:b", "c", "a", "b")
	attrs := m.pick("", "", " i='1'", " j='' i='x'", " p:i='2'", " xmlns:p='u'", " xmlns='u'", " xmlns:p='v' p:k='3' xmlns:unused='t'", " xml:space='preserve'")
	return "<" + name + attrs + ">" + m.content(deep) + "</" + name + ">"
}

func (m maker) document(deep int) string {
	return m.pick("", "<!--t-->", "<?q?>") + strings.Replace(m.element(deep), ">", " xmlns:p='u'>", 1) + m.pick("", "<!--e-->")
}

// tree is that of a document by chance that is well formed.
func (m maker) tree(deep int) (*xdm.Tree, string) {
	for {
		doc := m.document(deep)
		if x, e := xdm.Parse(doc); e == api.OK {
			return x, doc
		}
	}
}

func alike(a, b xrun.Answer) bool {
	norm := func(x xrun.Answer) xrun.Answer {
		x.Tokens = append([]api.Token{}, x.Tokens...)
		x.Messages = append([]string{}, x.Messages...)
		return x
	}
	return reflect.DeepEqual(norm(a), norm(b))
}

func TestMeaning(t *testing.T) { // P15.1, P15.2 (E2, E3, E4): sheets and documents by chance, against other rules
	seen := map[api.Errno]int{}
	m := maker{Rand: rand.New(rand.NewSource(15))}
	for n := range 3000 {
		m.odds = []int{0, 15, 60}[n%3]
		s := m.sheet()
		p, e := xcode.Compile(s)
		if e != api.OK {
			continue
		}
		for range 3 {
			seen[checkRun(t, m, s, p)]++
		}
	}
	for _, e := range []api.Errno{api.OK, api.ErrFuel, api.ErrLimit, api.ErrName, api.ErrKind, api.ErrForm, api.ErrPrefix, api.ErrBuild, api.ErrStop, api.ErrRange, api.ErrMark} {
		if seen[e] < 20 {
			t.Error("too few of", e, seen)
		}
	}
}

// checkRun runs a sheet on a document by chance, as the model does.
func checkRun(t *testing.T, m maker, s api.Sheet, p *xcode.Program) api.Errno {
	x, doc := m.tree(3)
	var params []api.Pair
	if m.Intn(3) == 0 {
		params = append(params, api.Pair{Name: m.pick("g", "h", "i"), Value: m.pick("", "1", "é")})
	}
	fuel := []int{4000, 1000, 60, 15}[m.Intn(4)]
	a, e := xrun.Run(p, x, fuel, params...)
	want, f := modelRun(s, p.Order(), x, fuel, params)
	if e != f || !alike(a, want) {
		t.Fatalf("%s\n%s\nfuel %d:\n%+v, %d, want\n%+v, %d", doc, show(s), fuel, a, e, want, f)
	}
	if e != api.OK {
		return e
	}
	if again, e := xrun.Run(p, x, a.Fuel, params...); e != api.OK || !alike(a, again) {
		t.Fatal("not the same with just the fuel that is needed", e)
	}
	if again, e := xrun.Run(p, x, api.MaxFuel, params...); e != api.OK || !alike(a, again) {
		t.Fatal("not the same with more fuel", e)
	}
	if _, e := xrun.Run(p, x, m.Intn(a.Fuel), params...); e != api.ErrFuel {
		t.Fatal("less fuel is enough", e)
	}
	// E6: what comes of it is a tree's, or several trees'.
	if e := xout.Right(a.Tokens...); e != api.OK && e != api.ErrLimit {
		t.Fatal(a.Tokens, e)
	}
	return api.OK
}

func show(s api.Sheet) string {
	var b strings.Builder
	var walk func(l []api.Instr, indent string)
	walk = func(l []api.Instr, indent string) {
		for _, i := range l {
			k := i.Kids
			i.Kids = nil
			fmt.Fprintf(&b, "%s%+v\n", indent, i)
			walk(k, indent+"  ")
		}
	}
	for j, r := range s.Rules {
		body := r.Body
		r.Body = nil
		fmt.Fprintf(&b, "rule %d %+v\n", j, r)
		walk(body, "  ")
	}
	b.WriteString("globals\n")
	walk(s.Globals, "  ")
	return b.String()
}

// bare is tokens without declarations, and with each prefix as what it stands for.
func bare(t *testing.T, l []api.Token) []api.Node {
	t.Helper()
	x, e := xdm.Build(l...)
	if e != api.OK {
		t.Fatalf("%+v: no tree: %d", l, e)
	}
	return x.Nodes()
}

func TestCopies(t *testing.T) { // P15.4: a rule that copies gives the document itself
	m := maker{Rand: rand.New(rand.NewSource(16))}
	byRule := load(t, copyAll)
	byRoot := load(t, rule("/", "<x:copy-of select='.'/>"))
	byKids := load(t, rule("/|*", "<x:copy><x:copy-of select='@*'/><x:apply-templates/></x:copy>")+rule("text()|comment()|processing-instruction()", "<x:copy/>"))
	for range 2000 {
		x, doc := m.tree(5)
		for _, p := range []*xcode.Program{byRule, byRoot, byKids} {
			a, e := xrun.Run(p, x, api.MaxFuel)
			if e != api.OK {
				t.Fatal(doc, e)
			}
			if got := bare(t, a.Tokens); !reflect.DeepEqual(got, x.Nodes()) {
				t.Fatalf("%s:\n%+v\nwant\n%+v", doc, got, x.Nodes())
			}
		}
	}
	// As deep as may be.
	doc := strings.Repeat("<a>", api.MaxDeep) + strings.Repeat("</a>", api.MaxDeep)
	a, e := xrun.Run(byRule, parse(t, doc), api.MaxFuel)
	if s, f := xmlscan.Write(a.Tokens...); e != api.OK || f != api.OK || s != doc {
		t.Error(e, s)
	}
	// Without declarations and in one prefix's meaning it is the same token by token.
	doc = "<?p q?><a i=\"1\">x<p:b xmlns:p=\"u\" p:j=\"2\"></p:b><!--c--></a>"
	a, e = xrun.Run(byRule, parse(t, doc), api.MaxFuel)
	if s, f := xmlscan.Write(a.Tokens...); e != api.OK || f != api.OK || s != doc {
		t.Error(e, s)
	}
}

func TestTextsAlone(t *testing.T) { // P15.3: without rules the answer is the document's texts
	m := maker{Rand: rand.New(rand.NewSource(17))}
	none := load(t, "")
	elsewhere := load(t, ruleWith("node()", "mode='m'", "x")+named("n", "y")+rule("z", "z"))
	for range 2000 {
		x, doc := m.tree(5)
		kids := 0
		for _, n := range x.Nodes() {
			if n.Kind != api.Attr {
				kids++
			}
		}
		for _, p := range []*xcode.Program{none, elsewhere} {
			a, e := xrun.Run(p, x, api.MaxFuel)
			s, f := xout.Write(api.Plain, a.Tokens...)
			if e != api.OK || f != api.OK || s != x.String(0) || len(a.Tokens) > 1 || a.Fuel != kids {
				t.Fatal(doc, s, e, a.Fuel)
			}
		}
	}
}

func TestOddSheets(t *testing.T) { // P1: programs of fields of any kind
	chance := rand.New(rand.NewSource(18))
	texts := []string{"", "", "a", "n", "{", "{a}", "\x00", "\xff", "$a", "p:a", "xml:b", "..", "/", "1", "xmlns:p", strings.Repeat("{.}", 100)}
	text := func() string { return texts[chance.Intn(len(texts))] }
	pairs := func() []api.Pair {
		var l []api.Pair
		for range chance.Intn(3) {
			l = append(l, api.Pair{Name: text(), Value: text()})
		}
		return l
	}
	var instrs func(deep int) []api.Instr
	instrs = func(deep int) []api.Instr {
		var l []api.Instr
		for range chance.Intn(3) {
			i := api.Instr{Do: api.Do(chance.Intn(int(api.Sort)) + 1), Flag: chance.Intn(2) == 0, Attrs: pairs(), Scope: pairs()}
			for _, field := range []*string{&i.Name, &i.Select, &i.Mode, &i.Text} {
				if chance.Intn(3) == 0 {
					*field = text()
				}
			}
			if deep > 0 {
				i.Kids = instrs(deep - 1)
			}
			l = append(l, i)
		}
		return l
	}
	x := parse(t, "<a b='1'>x<p:a xmlns:p='u'/><!--c--><?d e?></a>")
	ran := 0
	for range 20000 {
		s := api.Sheet{Globals: instrs(2), Strip: []string{text()}, Method: api.Method(chance.Intn(9) - 4)}
		for range chance.Intn(4) {
			r := api.Rule{Name: text(), Mode: text(), Own: chance.Intn(2) == 0, Priority: api.Num{Kind: api.NumKind(chance.Intn(9) - 2), V: -1 << 63}, Level: chance.Intn(9) - 4, Body: instrs(2), Scope: pairs()}
			if chance.Intn(3) > 0 {
				r.Match = []string{"/", "node()", "@*|*"}[chance.Intn(3)]
			}
			s.Rules = append(s.Rules, r)
		}
		p, e := xcode.Compile(s)
		if e != api.OK {
			continue
		}
		a, e := xrun.Run(p, x, 5000)
		if e < api.OK || e > api.ErrMark || e != api.OK && e != api.ErrStop && !reflect.DeepEqual(a, xrun.Answer{}) {
			t.Fatalf("%s: %+v, %d", show(s), a, e)
		}
		if e == api.OK {
			ran++
			if a.Fuel < 1 || a.Fuel > 5000 {
				t.Fatal(a.Fuel)
			}
		}
	}
	if ran < 500 {
		t.Error("too few have an answer", ran)
	}
}
