package xparse_test

import (
	"math/rand"
	"reflect"
	"strings"
	"testing"

	"stencil/api"
	"stencil/xparse"
	"stencil/xplex"
)

// maker makes right expressions by chance, and texts that say them.
type maker struct {
	*rand.Rand
}

func (m maker) pick(l ...string) string { return l[m.Intn(len(l))] }

func (m maker) name() string {
	return m.pick("a", "b", "p:a", "é", "and", "or", "div", "mod", "text", "node", "child", "a-b", "a.1")
}

func (m maker) words() string {
	return m.pick("", "x", "it's", `"`, " ", "1 + 2", "(", "::", "é😀", "\n", "$x")
}

func (m maker) kids(least, most, deep int) []api.Expr {
	var l []api.Expr
	for range least + m.Intn(most-least+1) {
		l = append(l, m.expr(deep))
	}
	return l
}

func (m maker) step(deep int) api.Expr {
	e := api.Expr{Op: api.Step, Axis: api.Axis(m.Intn(12)), Test: api.Test(m.Intn(7))}
	if m.Intn(3) == 0 {
		e = step(api.DescendantOrSelf, api.AnyNode, "")
	}
	switch e.Test {
	case api.AnyLocal:
		e.Text = m.pick("p", "q", "and")
	case api.OneName:
		e.Text = m.name()
	case api.AnyPi:
		e.Text = m.words()
	}
	if m.Intn(4) == 0 {
		e.Kids = m.kids(1, 2, deep)
	}
	return e
}

func (m maker) steps(least, deep int) []api.Expr {
	var l []api.Expr
	for range least + m.Intn(3) {
		l = append(l, m.step(deep))
	}
	return l
}

func (m maker) leaf() api.Expr {
	switch m.Intn(6) {
	case 0:
		return api.Expr{Op: api.Number, Num: api.Num{V: []int64{0, 1, 500000, 12 * api.Places, api.MaxNum}[m.Intn(5)]}}
	case 1:
		return str(m.words())
	case 2:
		return variable(m.name())
	case 3:
		return top()
	}
	return child(m.name())
}

func (m maker) expr(deep int) api.Expr {
	if deep == 0 {
		return m.leaf()
	}
	deep--
	switch m.Intn(8) {
	case 0:
		return m.leaf()
	case 1:
		return op(api.Neg, m.expr(deep))
	case 2:
		name := m.name()
		if name == "text" || name == "node" {
			name = "f"
		}
		return call(name, m.kids(0, 3, deep)...)
	case 3:
		first := m.expr(deep)
		if first.Op == api.Filter {
			first = first.Kids[0]
		}
		return op(api.Filter, append([]api.Expr{first}, m.kids(1, 2, deep)...)...)
	case 4:
		if m.Intn(2) == 0 {
			return top(m.steps(0, deep)...)
		}
		return here(m.steps(1, deep)...)
	case 5:
		return op(api.Path, append([]api.Expr{m.expr(deep)}, m.steps(1, deep)...)...)
	}
	o := api.Op(m.Intn(int(api.Union))) + api.Or
	if o == api.Neg {
		return op(o, m.expr(deep))
	}
	return op(o, m.expr(deep), m.expr(deep))
}

// The ways in which one expression may be written: as words, which blanks may part.

// strength is how strong what an Op makes is: the levels of the chapter's grammar.
func strength(o api.Op) int {
	switch o {
	case api.Or, api.And:
		return int(o)
	case api.Eq, api.Ne:
		return 3
	case api.Lt, api.Le, api.Gt, api.Ge:
		return 4
	case api.Add, api.Sub:
		return 5
	case api.Mul, api.Div, api.Mod:
		return 6
	case api.Neg:
		return 7
	case api.Union:
		return 8
	}
	return 9
}

// at is an expression where one of a strength must stand.
func (m maker) at(e api.Expr, least int) []string {
	l := m.write(e)
	for strength(e.Op) < least || m.Intn(8) == 0 || least > 0 && e.Op == api.Path && len(e.Kids) == 1 {
		l, least, e = append(append([]string{"("}, l...), ")"), 0, api.Expr{}
	}
	return l
}

func (m maker) write(e api.Expr) []string {
	signs := strings.Split("or and = != < <= > >= + - * div mod - |", " ")
	switch e.Op {
	case api.Neg:
		return append([]string{"-"}, m.at(e.Kids[0], 7)...)
	case api.Number:
		return []string{map[int64][]string{0: {"0", "0.0", ".0000001"}, 1: {"0.000001", ".0000019"}, 500000: {".5", "0.50"}, 12 * api.Places: {"12", "012.0"}, api.MaxNum: {"1000000000000", "1000000000000.0"}}[e.Num.V][m.Intn(2)]}
	case api.String:
		return []string{m.quote(e.Text)}
	case api.Variable:
		return []string{"$" + e.Text}
	case api.Call:
		l := []string{e.Text, "("}
		for i, k := range e.Kids {
			if i > 0 {
				l = append(l, ",")
			}
			l = append(l, m.at(k, 0)...)
		}
		return append(l, ")")
	case api.Filter:
		l := m.first(e.Kids[0], false)
		for i, k := range e.Kids[1:] {
			if i > 0 && m.Intn(4) == 0 { // of a Filter in ( ) the predicates go on
				l = append(append([]string{"("}, l...), ")")
			}
			l = append(append(append(l, "["), m.at(k, 0)...), "]")
		}
		return l
	case api.Path:
		return m.path(e)
	}
	l := append(m.at(e.Kids[0], strength(e.Op)), signs[e.Op-api.Or])
	return append(l, m.at(e.Kids[1], strength(e.Op)+1)...)
}

func (m maker) quote(s string) string {
	if !strings.Contains(s, `"`) && (strings.Contains(s, "'") || m.Intn(2) == 0) {
		return `"` + s + `"`
	}
	return "'" + s + "'"
}

func (m maker) first(e api.Expr, filter bool) []string {
	bare := e.Op == api.Number || e.Op == api.String || e.Op == api.Variable || e.Op == api.Call || filter && e.Op == api.Filter
	if bare && m.Intn(4) > 0 {
		return m.write(e)
	}
	return append(append([]string{"("}, m.write(e)...), ")")
}

func (m maker) path(e api.Expr) []string {
	var l []string
	first, steps := e.Kids[0], e.Kids[1:]
	if first.Op != api.NoOp && first.Op != api.Top {
		l = m.first(first, true)
	}
	sign := "/"
	if len(steps) == 0 {
		return []string{"/"}
	}
	for i, s := range steps {
		inner := i > 0 || first.Op != api.NoOp
		if inner && sign == "/" && i < len(steps)-1 && reflect.DeepEqual(s, step(api.DescendantOrSelf, api.AnyNode, "")) && m.Intn(3) > 0 {
			sign = "//"
			continue
		}
		if inner {
			l = append(l, sign)
		}
		l = append(l, m.writeStep(s)...)
		sign = "/"
	}
	return l
}

func (m maker) writeStep(s api.Expr) []string {
	if s.Test == api.AnyNode && len(s.Kids) == 0 && m.Intn(2) == 0 {
		switch s.Axis {
		case api.Self:
			return []string{"."}
		case api.Parent:
			return []string{".."}
		}
	}
	axes := strings.Split("child descendant parent ancestor following-sibling preceding-sibling following preceding attribute self descendant-or-self ancestor-or-self", " ")
	l := []string{axes[s.Axis], "::"}
	switch {
	case s.Axis == api.Child && m.Intn(2) == 0:
		l = nil
	case s.Axis == api.Attribute && m.Intn(2) == 0:
		l = []string{"@"}
	}
	switch s.Test {
	case api.AnyName:
		l = append(l, "*")
	case api.AnyLocal:
		l = append(l, s.Text+":*")
	case api.OneName:
		l = append(l, s.Text)
	case api.AnyPi:
		l = append(l, "processing-instruction", "(")
		if s.Text != "" || m.Intn(3) == 0 {
			l = append(l, m.quote(s.Text))
		}
		l = append(l, ")")
	default:
		l = append(l, map[api.Test]string{api.AnyNode: "node", api.AnyText: "text", api.AnyComment: "comment"}[s.Test], "(", ")")
	}
	for _, k := range s.Kids {
		l = append(append(append(l, "["), m.at(k, 0)...), "]")
	}
	return l
}

// join parts words by blanks, but not always beside those that need none.
func (m maker) join(l []string) string {
	s := m.pick("", " ")
	for i, x := range l {
		if i > 0 && (m.Intn(3) == 0 || !strings.Contains("()[],", x) && !strings.Contains("()[],", l[i-1])) {
			s += m.pick(" ", "\n", "\t ", "\r")
		}
		s += x
	}
	return s + m.pick("", " ")
}

func TestThereAndBack(t *testing.T) { // P6.1, P6.3 (E1), P6.4
	m := maker{rand.New(rand.NewSource(8))}
	told := 0
	for range 20000 {
		e := m.expr(m.Intn(4))
		if !xparse.Right(e) {
			t.Fatal(show(e))
		}
		for range 3 {
			s := m.join(m.write(e))
			if len(s) > api.MaxExpr {
				continue
			}
			got, fault := xparse.Parse(s)
			if fault != api.OK || show(got) != show(e) || !xparse.Same(got, e) || !xparse.Right(got) {
				t.Fatalf("%q: %s, %d, want %s", s, show(got), fault, show(e))
			}
		}
		s, fault := xparse.Print(e)
		if fault == api.ErrLimit && s == "" {
			continue
		}
		told++
		got, late := xparse.Parse(s)
		if fault != api.OK || late != api.OK || !xparse.Same(got, e) || show(got) != show(e) {
			t.Fatalf("%s is printed as %q: %s, %d, %d", show(e), s, show(got), fault, late)
		}
		if again, fault := xparse.Print(got); again != s || fault != api.OK {
			t.Fatalf("%q is printed as %q, %d", s, again, fault)
		}
		wantLeast(t, s, e)
	}
	if told < 15000 {
		t.Error(told)
	}
}

// wantLeast asks whether of ( ) around expressions just those stand that must (or that the chapter puts around / alone).
func wantLeast(t *testing.T, s string, e api.Expr) {
	t.Helper()
	l, _, _ := xplex.Scan(s)
	var open []int
	for i, x := range l {
		if x.Kind != api.LexSign || x.Text != "(" && x.Text != ")" {
			continue
		}
		if x.Text == "(" {
			open = append(open, i)
			continue
		}
		from := open[len(open)-1]
		open = open[:len(open)-1]
		if from > 0 && (l[from-1].Kind == api.LexFunction || l[from-1].Kind == api.LexType) || s[l[from].At:x.At] == "(/" {
			continue
		}
		without := s[:l[from].At] + " " + s[l[from].At+1:x.At] + " " + s[x.At+1:]
		if got, fault := xparse.Parse(without); fault == api.OK && show(got) == show(e) {
			t.Fatalf("%q says the same as %q", without, s)
		}
	}
}

func TestSpoilt(t *testing.T) { // P6.1, P6.4: expressions with a word that is left out, put in, or another one
	m := maker{rand.New(rand.NewSource(9))}
	pieces := []string{"a", "*", "and", "1", "'x'", "$v", "f (", "text ( )", "child ::", "::", "(", ")", "[", "]", ".", "..", "@", ",", "/", "//", "|", "-", "9999999999999", "!", "\x00"}
	wrong, right := 0, 0
	for range 15000 {
		l := m.write(m.expr(1 + m.Intn(2)))
		at := m.Intn(len(l))
		switch m.Intn(3) {
		case 0:
			l = append(l[:at:at], l[at+1:]...)
		case 1:
			l = append(append(l[:at:at], m.pick(pieces...)), l[at:]...)
		case 2:
			l[at] = m.pick(pieces...)
		}
		s := strings.Join(l, " ")
		ok, scan := taken(s)
		ok = ok && !strings.Contains(s, "9999999999999")
		e, fault := xparse.Parse(s)
		switch {
		case scan != api.OK && fault == scan:
		case scan == api.OK && !ok && fault == api.ErrWord && show(e) == "NoOp":
			wrong++
		case ok && fault == api.OK && xparse.Right(e):
			right++
		case ok && fault == api.ErrLimit && show(e) == "NoOp" && len(s) > api.MaxDeep:
		default:
			t.Fatalf("Parse(%q) = %s, %d; Scan %d, the grammar: %v", s, show(e), fault, scan, ok)
		}
	}
	if wrong < 2000 || right < 1000 {
		t.Error(wrong, right)
	}
}

func TestAnyTexts(t *testing.T) { // P1, P2, P6: calls end, answer nothing beside an error, and the same again
	chance := rand.New(rand.NewSource(10))
	texts := []string{strings.Repeat("(", api.MaxExpr), strings.Repeat("a[", api.MaxExpr/2), strings.Repeat("f(", api.MaxExpr/2), strings.Repeat("-", api.MaxExpr), strings.Repeat("/", api.MaxExpr), strings.Repeat("\xff", 1<<16)}
	for range 20000 {
		b := make([]byte, chance.Intn(10))
		for i := range b {
			b[i] = "ab*/.()[]@,:|+-=<>!'\"$1 \x00\xff\xc3\xa9"[chance.Intn(28)]
		}
		texts = append(texts, string(b))
	}
	for _, s := range texts {
		e, fault := xparse.Parse(s)
		again, late := xparse.Parse(s)
		if fault != late || !reflect.DeepEqual(e, again) {
			t.Fatalf("%q: %d, then %d", s, fault, late)
		}
		if xparse.Right(e) != (fault == api.OK) || fault != api.OK && !reflect.DeepEqual(e, api.Expr{}) {
			t.Fatalf("%q: %s, %d", s, show(e), fault)
		}
		if _, scan, _ := xplex.Scan(s); scan != api.OK && fault != scan {
			t.Fatalf("%q: %d, want %d", s, fault, scan)
		}
	}
}

func TestAnyExpressions(t *testing.T) { // P1, P2: fields of any kind, Kids of any number
	chance := rand.New(rand.NewSource(11))
	var any func(deep int) api.Expr
	any = func(deep int) api.Expr {
		e := api.Expr{Op: api.Op(chance.Intn(28) - 2)}
		if chance.Intn(2) == 0 {
			e.Text = []string{"", "a", "p:a", "text", "'\"", "\xff", " ", "*", "$"}[chance.Intn(9)]
		}
		if chance.Intn(3) == 0 {
			e.Num = api.Num{Kind: api.NumKind(chance.Intn(6) - 1), V: []int64{0, 1, -1, 1 << 62, -1 << 63}[chance.Intn(5)]}
		}
		if chance.Intn(3) == 0 {
			e.Axis, e.Test = api.Axis(chance.Intn(16)-2), api.Test(chance.Intn(11)-2)
		}
		for range chance.Intn(4) {
			if deep > 0 {
				e.Kids = append(e.Kids, any(deep-1))
			}
		}
		return e
	}
	right := 0
	for range 60000 {
		e := any(chance.Intn(4))
		s, fault := xparse.Print(e)
		if !xparse.Right(e) {
			if s != "" || fault != api.ErrWord || xparse.Size(e) != 0 || len(xparse.Names(e)) != 0 || xparse.Same(e, e) {
				t.Fatal(show(e), s, fault)
			}
			continue
		}
		right++
		if got, late := xparse.Parse(s); fault != api.OK || late != api.OK || !xparse.Same(got, e) || xparse.Size(e) != strings.Count(show(e), ", ")+strings.Count(show(e), "(")+1 {
			t.Fatal(show(e), s, fault, late)
		}
	}
	if right < 100 {
		t.Error(right)
	}
}
