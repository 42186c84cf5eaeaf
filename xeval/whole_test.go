package xeval_test

import (
	"math/rand"
	"reflect"
	"slices"
	"strings"
	"testing"

	"stencil/api"
	"stencil/xdm"
	"stencil/xeval"
	"stencil/xnum"
	"stencil/xparse"
	"stencil/xvalue"
)

// meaning asks expressions by the chapter's words, kid by kid; an error is a panic of an Errno.
type meaning struct {
	tree  *xdm.Tree
	where xeval.Context
	scope xeval.Scope
	taken int
}

func (m *meaning) one() {
	if m.taken++; m.taken > m.where.Steps || m.taken > api.MaxSteps {
		panic(api.ErrFuel)
	}
}

// ask is what an expression means at a node, its place and the size.
func (m *meaning) ask(e api.Expr, node, place, size int) api.Value {
	m.one()
	kid := func(i int) api.Value { return m.ask(e.Kids[i], node, place, size) }
	number := func(v api.Value) api.Num { return xvalue.Number(m.tree, v) }
	truthOf := func(v api.Value) bool { return xvalue.Bool(m.tree, v) }
	switch e.Op {
	case api.Or:
		return truth(truthOf(kid(0)) || truthOf(kid(1)))
	case api.And:
		return truth(truthOf(kid(0)) && truthOf(kid(1)))
	case api.Eq, api.Ne, api.Lt, api.Le, api.Gt, api.Ge:
		a, b := kid(0), kid(1)
		return truth(xvalue.Compare(m.tree, e.Op, a, b))
	case api.Add, api.Sub, api.Mul, api.Div, api.Mod:
		a, b := kid(0), kid(1)
		by := []func(a, b api.Num) api.Num{xnum.Add, xnum.Sub, xnum.Mul, xnum.Div, xnum.Mod}[e.Op-api.Add]
		return api.Value{Kind: api.Numbers, Num: by(number(a), number(b))}
	case api.Neg:
		return api.Value{Kind: api.Numbers, Num: xnum.Neg(number(kid(0)))}
	case api.Union:
		a, b := kid(0), kid(1)
		m.mustBeNodes(a)
		m.mustBeNodes(b)
		return m.set(append(slices.Clone(a.Nodes), b.Nodes...))
	case api.Number:
		return api.Value{Kind: api.Numbers, Num: e.Num}
	case api.String:
		return str(e.Text)
	case api.Variable:
		for i, name := range m.where.Names {
			if name == e.Text {
				return m.where.Values[i]
			}
		}
		panic(api.ErrName)
	case api.Call:
		var l []api.Value
		for i := range e.Kids {
			l = append(l, kid(i))
		}
		return m.call(e.Text, l, node, place, size)
	case api.Filter:
		v := kid(0)
		m.mustBeNodes(v)
		return nodes(m.filtered(v.Nodes, e.Kids[1:])...)
	}
	return m.path(e, node, place, size)
}

func (m *meaning) mustBeNodes(v api.Value) {
	if v.Kind != api.Nodes {
		panic(api.ErrKind)
	}
}

// set is nodes in document order, each once.
func (m *meaning) set(l []int) api.Value {
	var some []int
	for n := range m.tree.Len() {
		if slices.Contains(l, n) {
			some = append(some, n)
		}
	}
	return nodes(some...)
}

func (m *meaning) path(e api.Expr, node, place, size int) api.Value {
	v := nodes(node)
	switch e.Kids[0].Op {
	case api.NoOp:
	case api.Top:
		v = nodes(0)
	default:
		v = m.ask(e.Kids[0], node, place, size)
	}
	m.mustBeNodes(v)
	for _, step := range e.Kids[1:] {
		var all []int
		for _, n := range v.Nodes {
			var some []int
			for _, k := range onAxis(m.tree, step.Axis, n) {
				m.one()
				if m.passes(step, k) {
					some = append(some, k)
				}
			}
			all = append(all, m.filtered(some, step.Kids)...)
		}
		v = m.set(all)
	}
	return v
}

func (m *meaning) filtered(l []int, predicates []api.Expr) []int {
	for _, p := range predicates {
		var some []int
		for i, n := range l {
			v := m.ask(p, n, i+1, len(l))
			if v.Kind == api.Numbers && v.Num == xnum.Int(i+1) || v.Kind != api.Numbers && xvalue.Bool(m.tree, v) {
				some = append(some, n)
			}
		}
		l = some
	}
	return l
}

func (m *meaning) uri(prefix string) string {
	if prefix == "xml" {
		return "http://www.w3.org/XML/1998/namespace"
	}
	for _, p := range m.scope {
		if p.Name == prefix {
			return p.Value
		}
	}
	return ""
}

func (m *meaning) passes(step api.Expr, n int) bool {
	kind, name := m.tree.Kind(n), m.tree.Name(n)
	named := kind == api.Element
	if step.Axis == api.Attribute {
		named = kind == api.Attr
	}
	prefix, local, ok := strings.Cut(step.Text, ":")
	if !ok {
		prefix, local = "", step.Text
	}
	switch step.Test {
	case api.AnyName:
		return named
	case api.AnyLocal:
		return named && name.Uri == m.uri(step.Text)
	case api.OneName:
		return named && name.Local == local && (prefix == "" && name.Uri == "" || prefix != "" && name.Uri == m.uri(prefix))
	case api.AnyText:
		return kind == api.Text
	case api.AnyComment:
		return kind == api.Comment
	case api.AnyPi:
		return kind == api.Pi && (step.Text == "" || name.Local == step.Text)
	}
	return true
}

func (m *meaning) call(name string, l []api.Value, node, place, size int) api.Value {
	switch name {
	case "position":
		return num(place)
	case "last":
		return num(size)
	case "lang":
		asked := strings.ToLower(xvalue.String(m.tree, l[0]))
		for n := node; n >= 0; n = m.tree.Parent(n) {
			for _, a := range m.tree.Attrs(n) {
				if x := m.tree.Name(a); x.Local == "lang" && x.Uri == m.uri("xml") {
					found := strings.ToLower(m.tree.Text(a))
					return truth(found == asked || strings.HasPrefix(found, asked+"-"))
				}
			}
		}
		return truth(false)
	}
	if len(l) == 0 && name != "true" && name != "false" {
		l = []api.Value{nodes(node)}
	}
	v, e := xvalue.Call(m.tree, name, l...)
	if e != api.OK {
		panic(e)
	}
	return v
}

// means is what an expression means at a context, its steps, or its error and the steps till then.
func means(x *xdm.Tree, e api.Expr, where xeval.Context, scope xeval.Scope) (v api.Value, steps int, fault api.Errno) {
	m := meaning{tree: x, where: where, scope: scope}
	defer func() {
		steps = m.taken
		if r := recover(); r != nil {
			v, fault = api.Value{}, r.(api.Errno)
		}
	}()
	return m.ask(e, where.Node, where.Place, where.Size), 0, api.OK
}

// fault is the first one of an expression, by the order in which it is printed.
func fault(e api.Expr, scope xeval.Scope) api.Errno {
	unknown := func(name string) bool {
		prefix, _, ok := strings.Cut(name, ":")
		m := meaning{scope: scope}
		return ok && m.uri(prefix) == ""
	}
	switch {
	case e.Op == api.Step && (e.Test == api.AnyLocal && unknown(e.Text+":") || e.Test == api.OneName && unknown(e.Text)):
		return api.ErrPrefix
	case e.Op == api.Call && unknown(e.Text):
		return api.ErrPrefix
	case e.Op == api.Call:
		least, most, ok := xvalue.Arity(e.Text)
		if e.Text == "lang" {
			least, most, ok = 1, 1, true
		}
		if !ok {
			return api.ErrName
		}
		if len(e.Kids) < least || len(e.Kids) > most {
			return api.ErrCount
		}
	}
	for _, k := range e.Kids {
		if f := fault(k, scope); f != api.OK {
			return f
		}
	}
	return api.OK
}

// maker makes right expressions by chance; wrong says whether names and numbers of arguments may be wrong.
type maker struct {
	*rand.Rand
	wrong bool
}

func (m maker) pick(l ...string) string { return l[m.Intn(len(l))] }

func (m maker) kids(count, deep int) []api.Expr {
	var l []api.Expr
	for range count {
		l = append(l, m.expr(deep))
	}
	return l
}

func (m maker) step(deep int) api.Expr {
	e := api.Expr{Op: api.Step, Axis: api.Axis(m.Intn(12)), Test: api.Test(m.Intn(7))}
	switch m.Intn(6) {
	case 0:
		e.Axis = api.Child
	case 1:
		e.Axis, e.Test = api.DescendantOrSelf, api.AnyNode
	case 2:
		e.Test = api.AnyName
	}
	switch e.Test {
	case api.AnyLocal:
		e.Text = m.pick("p", "q", "xml")
	case api.OneName:
		e.Text = m.pick("a", "b", "c", "x", "y", "p:a", "p:x", "q:a", "xml:lang", "r")
	case api.AnyPi:
		e.Text = m.pick("", "p", "q", "zz")
	}
	if m.wrong && m.Intn(4) == 0 && e.Text != "" && e.Test != api.AnyPi {
		e.Text = map[bool]string{true: "o", false: "o:a"}[e.Test == api.AnyLocal]
	}
	if m.Intn(3) == 0 {
		e.Kids = m.kids(1+m.Intn(2), deep)
	}
	return e
}

func (m maker) path(deep int) api.Expr {
	e := api.Expr{Op: api.Path, Kids: []api.Expr{{}}}
	least := 1
	switch m.Intn(5) {
	case 0, 1:
		e.Kids[0].Op, least = api.Top, 0
	case 2:
		e.Kids[0] = m.set(deep)
	}
	for range least + m.Intn(3) {
		e.Kids = append(e.Kids, m.step(deep))
	}
	return e
}

// set is an expression that mostly tells nodes.
func (m maker) set(deep int) api.Expr {
	if deep == 0 {
		if m.Intn(3) == 0 {
			return api.Expr{Op: api.Variable, Text: m.pick("v", "w", "v", "n", "undefined")}
		}
		return api.Expr{Op: api.Path, Kids: []api.Expr{{Op: api.Op(m.Intn(2)) * api.Top}, m.step(0)}}
	}
	switch m.Intn(6) {
	case 0:
		return api.Expr{Op: api.Union, Kids: []api.Expr{m.set(deep - 1), m.set(deep - 1)}}
	case 1:
		first := m.set(deep - 1)
		if first.Op == api.Filter {
			return first
		}
		return api.Expr{Op: api.Filter, Kids: append([]api.Expr{first}, m.kids(1+m.Intn(2), deep-1)...)}
	case 2:
		return m.expr(deep - 1)
	}
	return m.path(deep - 1)
}

func (m maker) call(deep int) api.Expr {
	name := m.pick("last", "position", "boolean", "not", "true", "false", "number", "floor", "ceiling", "round", "sum", "count", "string", "concat", "starts-with", "contains", "substring-before", "substring-after", "string-length", "normalize-space", "translate", "substring", "name", "local-name", "namespace-uri", "format-number", "lang", "last", "position")
	least, most, ok := xvalue.Arity(name)
	if !ok {
		least, most = 1, 1
	}
	e := api.Expr{Op: api.Call, Text: name, Kids: m.kids(least+m.Intn(min(most-least, 2)+1), deep)}
	switch name {
	case "sum", "count", "name", "local-name", "namespace-uri":
		for i := range e.Kids {
			e.Kids[i] = m.set(deep)
		}
	case "lang":
		e.Kids[0] = api.Expr{Op: api.String, Text: m.pick("en", "DE", "de-at", "")}
	case "format-number":
		e.Kids[1] = api.Expr{Op: api.String, Text: m.pick("0", "#.0", "x")}
	}
	if m.wrong && m.Intn(4) == 0 {
		e.Text = m.pick("f", "p:f", "o:f", "p:not", "lang", "true", "not", "concat")
	}
	return e
}

func (m maker) expr(deep int) api.Expr {
	if deep == 0 {
		switch m.Intn(5) {
		case 0:
			return api.Expr{Op: api.Number, Num: api.Num{V: []int64{0, 1, 2, 3}[m.Intn(4)] * api.Places}}
		case 1:
			return api.Expr{Op: api.String, Text: m.pick("", "1", "x", "en")}
		case 2:
			return api.Expr{Op: api.Call, Text: m.pick("position", "last", "true", "string", "name")}
		}
		return m.set(0)
	}
	deep--
	switch m.Intn(6) {
	case 0:
		return m.call(deep)
	case 1:
		return api.Expr{Op: api.Neg, Kids: m.kids(1, deep)}
	case 2:
		return api.Expr{Op: []api.Op{api.Or, api.And}[m.Intn(2)], Kids: m.kids(2, deep)}
	case 3:
		op := api.Eq + api.Op(m.Intn(int(api.Mod-api.Eq)+1))
		return api.Expr{Op: op, Kids: m.kids(2, deep)}
	}
	return m.set(deep)
}

func randomContext(r *rand.Rand, x *xdm.Tree) xeval.Context {
	where := xeval.Context{Node: r.Intn(x.Len()), Size: 1 + r.Intn(4), Steps: []int{3000, 1000, 30}[r.Intn(3)], Names: []string{"v", "n", "w", "v"}}
	where.Place = 1 + r.Intn(where.Size)
	set := func() api.Value {
		var l []int
		for n := range x.Len() {
			if r.Intn(4) == 0 {
				l = append(l, n)
			}
		}
		return nodes(l...)
	}
	where.Values = []api.Value{set(), num(2), set(), truth(true)}
	return where
}

func sameValue(a, b api.Value) bool {
	same := slices.Equal(a.Nodes, b.Nodes)
	a.Nodes, b.Nodes = nil, nil
	return same && reflect.DeepEqual(a, b)
}

func TestAgainstMeaning(t *testing.T) { // E2, E3, P8.1, P8.2 (E4), P8.4, P6
	m := maker{Rand: rand.New(rand.NewSource(3))}
	counts := map[api.Errno]int{}
	kinds := map[api.ValueKind]int{}
	for range 30000 {
		x := randomTree(m.Rand)
		e := m.expr(m.Intn(4))
		where := randomContext(m.Rand, x)
		want, steps, fault := means(x, e, where, known)
		c, late := xeval.Compile(e, known)
		if late != api.OK {
			t.Fatal(e, late)
		}
		v, taken, got := c.Run(x, where)
		if fault == api.OK && (got != api.OK || taken != steps || !sameValue(v, want)) || fault != api.OK && (got != fault || taken != 0 || !reflect.DeepEqual(v, api.Value{})) {
			s, _ := xparse.Print(e)
			t.Fatalf("%s: %v, %d, %d, want %v, %d, %d", s, v, taken, got, want, steps, fault)
		}
		counts[got]++
		kinds[v.Kind]++
		for i, n := range v.Nodes {
			if i > 0 && v.Nodes[i-1] >= n || n < 0 || n >= x.Len() {
				t.Fatal(v.Nodes)
			}
		}
		fuel(t, m.Rand, c, x, e, where, steps)
	}
	if counts[api.OK] < 5000 || counts[api.ErrKind] < 300 || counts[api.ErrName] < 300 || counts[api.ErrFuel] < 100 || counts[api.ErrMark] < 5 || kinds[api.Nodes] < 2000 || kinds[api.Numbers] < 1000 || kinds[api.Strings] < 500 || kinds[api.Bools] < 500 {
		t.Error(counts, kinds)
	}
}

// fuel runs a code again with other Steps: more say the same, fewer than are needed that there are too few.
func fuel(t *testing.T, r *rand.Rand, c *xeval.Code, x *xdm.Tree, e api.Expr, where xeval.Context, steps int) {
	t.Helper()
	most := min(where.Steps, steps)
	for _, limit := range []int{0, r.Intn(most + 1), most - 1, most, most + 1, 2 * most} {
		where.Steps = max(limit, 0)
		want, steps, fault := means(x, e, where, known)
		v, taken, got := c.Run(x, where)
		if got != fault || got == api.OK && (taken != steps || !sameValue(v, want)) {
			t.Fatal(e, limit, got, fault)
		}
	}
}

func TestCompileAgainstOrder(t *testing.T) { // P8.1
	m := maker{Rand: rand.New(rand.NewSource(4)), wrong: true}
	counts := map[api.Errno]int{}
	for range 30000 {
		e := m.expr(1 + m.Intn(4))
		want := fault(e, known)
		c, got := xeval.Compile(e, known)
		if got != want || (c == nil) != (got != api.OK) {
			s, _ := xparse.Print(e)
			t.Fatalf("%s: %d, want %d", s, got, want)
		}
		counts[got]++
	}
	if counts[api.OK] < 1000 || counts[api.ErrPrefix] < 500 || counts[api.ErrName] < 500 || counts[api.ErrCount] < 500 {
		t.Error(counts)
	}
}

func TestEvalAsItsParts(t *testing.T) { // P8.1: Eval is Parse, Compile and Run
	m := maker{Rand: rand.New(rand.NewSource(5)), wrong: true}
	for range 5000 {
		x := randomTree(m.Rand)
		e := m.expr(m.Intn(4))
		s, fault := xparse.Print(e)
		if fault != api.OK {
			continue
		}
		where := randomContext(m.Rand, x)
		var want api.Value
		c, fault := xeval.Compile(e, known)
		if fault == api.OK {
			want, _, fault = c.Run(x, where)
		}
		if v, got := xeval.Eval(x, s, where, known); got != fault || !sameValue(v, want) {
			t.Fatal(s, v, got, want, fault)
		}
	}
}

func TestDoubleSlash(t *testing.T) { // P8.5
	r := rand.New(rand.NewSource(6))
	for range 300 {
		x := randomTree(r)
		for short, long := range map[string]string{
			"//a": "/descendant-or-self::node()/child::a", "a//b": "a/descendant-or-self::node()/b", ".//@x": "./descendant-or-self::node()/@x", "$v//.": "$v/descendant-or-self::node()/.", "//*[1]": "/descendant-or-self::node()/*[1]", "//..": "/descendant-or-self::node()/..",
		} {
			where := randomContext(r, x)
			where.Steps = 3000
			a, stepsA, faultA := compile(t, short, nil).Run(x, where)
			b, stepsB, faultB := compile(t, long, nil).Run(x, where)
			if faultA != api.OK || faultB != api.OK || stepsA != stepsB || !sameValue(a, b) {
				t.Fatal(short, a, b)
			}
		}
	}
}

// anyExpr is one of any fields, mostly not right.
func anyExpr(r *rand.Rand, deep int) api.Expr {
	e := api.Expr{Op: api.Op(r.Intn(28) - 2)}
	if r.Intn(2) == 0 {
		e.Text = []string{"", "a", "p:a", "o:a", "not", "last", "'\"", "\xff"}[r.Intn(8)]
	}
	if r.Intn(3) == 0 {
		e.Axis, e.Test = api.Axis(r.Intn(16)-2), api.Test(r.Intn(11)-2)
	}
	for range r.Intn(4) {
		if deep > 0 {
			e.Kids = append(e.Kids, anyExpr(r, deep-1))
		}
	}
	return e
}

func anyContext(r *rand.Rand) xeval.Context {
	number := func() int { return []int{-1 << 63, -1, 0, 1, 1, 2, 3, 100, 1<<63 - 1}[r.Intn(9)] }
	where := xeval.Context{Node: number(), Place: number(), Size: number(), Steps: number()}
	for range r.Intn(3) {
		where.Names = append(where.Names, []string{"", "v", "a", "\xff"}[r.Intn(4)])
	}
	for range r.Intn(3) {
		v := api.Value{Kind: api.ValueKind(r.Intn(7) - 1)}
		if r.Intn(2) == 0 {
			v.Nodes = []int{number(), number()}
		}
		if r.Intn(4) == 0 {
			v.Num, v.Text, v.Bool = api.Num{Kind: api.NumKind(number()), V: int64(number())}, "\xff", true
		}
		where.Values = append(where.Values, v)
	}
	return where
}

func TestAnyArguments(t *testing.T) { // P1, P2, P6
	r := rand.New(rand.NewSource(7))
	x := parse(t, plain)
	codes := []*xeval.Code{nil, new(xeval.Code), compile(t, "$v", nil), compile(t, "//*[$v]", nil), compile(t, "$v[1]/a | $a", nil)}
	for range 20000 {
		e := anyExpr(r, r.Intn(3))
		c, fault := xeval.Compile(e, xeval.Scope{{Name: "\xff"}, {Name: "p", Value: "\xff"}}[:r.Intn(3)])
		if (c == nil) != (fault != api.OK) || !xparse.Right(e) && fault != api.ErrWord {
			t.Fatal(e, c, fault)
		}
		if c == nil {
			c = codes[r.Intn(len(codes))]
		}
		where := anyContext(r)
		tree := []*xdm.Tree{nil, x, new(xdm.Tree)}[r.Intn(3)]
		v, steps, fault := c.Run(tree, where)
		again, late, other := c.Run(tree, where)
		if fault != other || steps != late || !reflect.DeepEqual(v, again) || fault != api.OK && (steps != 0 || !reflect.DeepEqual(v, api.Value{})) {
			t.Fatal(e, v, steps, fault)
		}
		s := []string{"", "1", "$v", "//*", "\xff", "((", "a[", "f()"}[r.Intn(8)]
		if v, fault := xeval.Eval(tree, s, where, nil); fault != api.OK && !reflect.DeepEqual(v, api.Value{}) {
			t.Fatal(s, v, fault)
		}
	}
}

func TestAtOnce(t *testing.T) { // P6: nothing is kept in a code between runs
	x := parse(t, plain)
	c := compile(t, "//*[position() < last()] | $v[2]", nil)
	want, _, _ := c.Run(x, at(0))
	done := make(chan api.Value)
	for range 8 {
		go func() {
			v, _, _ := c.Run(x, at(0))
			done <- v
		}()
	}
	for range 8 {
		if v := <-done; !sameValue(v, want) {
			t.Error(v, want)
		}
	}
}
