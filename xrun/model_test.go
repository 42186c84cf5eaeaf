package xrun_test

import (
	"slices"
	"strings"

	"stencil/api"
	"stencil/xbuild"
	"stencil/xdm"
	"stencil/xeval"
	"stencil/xnum"
	"stencil/xparse"
	"stencil/xpattern"
	"stencil/xrun"
	"stencil/xsheet"
	"stencil/xsort"
	"stencil/xvalue"
)

// bound is a variable, and those that were bound ahead of it.
type bound struct {
	name  string
	value api.Value
	older *bound
}

// model runs a sheet by other rules: it walks instructions as they stand, hands errors back, and looks at all rules each time.
type model struct {
	sheet    api.Sheet
	tree     *xdm.Tree
	left     int
	messages []string
	globals  []bound // in the order in which they were reckoned
	patterns []*xpattern.Pattern
}

// place is where the model stands.
type place struct {
	node, at, of int
	rule         int // -1: none
	deep         int
	locals       *bound
	handed       []bound
	b            *xbuild.Builder
}

func modelRun(s api.Sheet, order []int, t *xdm.Tree, fuel int, params []api.Pair) (xrun.Answer, api.Errno) {
	m := &model{sheet: s, tree: t.Strip(s.Strip...), left: fuel}
	for _, r := range s.Rules {
		p, _ := xpattern.Compile(r.Match, r.Scope)
		m.patterns = append(m.patterns, p)
	}
	e := m.all(order, params)
	switch {
	case e.errno == api.ErrStop:
		return xrun.Answer{Messages: m.messages}, api.ErrStop
	case e.errno != api.OK:
		return xrun.Answer{}, e.errno
	}
	return xrun.Answer{Tokens: e.tokens, Messages: m.messages, Fuel: fuel - m.left}, api.OK
}

type ended struct {
	errno  api.Errno
	tokens []api.Token
}

func (m *model) all(order []int, params []api.Pair) ended {
	for _, i := range order {
		if m.left == 0 {
			return ended{errno: api.ErrFuel}
		}
		m.left--
		g := m.sheet.Globals[i]
		v, e := api.Value{}, api.OK
		handed := false
		for _, p := range params {
			if g.Do == api.Given && p.Name == g.Name && !handed {
				v, handed = api.Value{Kind: api.Strings, Text: p.Value}, true
			}
		}
		if !handed {
			v, e = m.valueOf(g, place{at: 1, of: 1, rule: -1})
		}
		if e != api.OK {
			return ended{errno: e}
		}
		m.globals = append(m.globals, bound{name: g.Name, value: v})
	}
	b := xbuild.New()
	if e := m.applyOne(place{at: 1, of: 1, rule: -1, b: b}, "", nil, false, 0); e != api.OK {
		return ended{errno: e}
	}
	l, e := b.Tokens()
	return ended{e, l}
}

// lists are all variables, the nearest one first.
func (m *model) lists(at place) ([]string, []api.Value) {
	var names []string
	var values []api.Value
	for v := at.locals; v != nil; v = v.older {
		names, values = append(names, v.name), append(values, v.value)
	}
	for _, v := range m.globals {
		names, values = append(names, v.name), append(values, v.value)
	}
	return names, values
}

func (m *model) eval(s string, scope []api.Pair, at place) (api.Value, api.Errno) {
	x, e := xparse.Parse(s)
	if e != api.OK {
		return api.Value{}, e
	}
	code, e := xeval.Compile(x, scope)
	if e != api.OK {
		return api.Value{}, e
	}
	names, values := m.lists(at)
	v, steps, e := code.Run(m.tree, xeval.Context{Node: at.node, Place: at.at, Size: at.of, Names: names, Values: values, Steps: min(m.left, api.MaxSteps)})
	m.left -= steps
	return v, e
}

func (m *model) evalText(s string, scope []api.Pair, at place) (string, api.Errno) {
	v, e := m.eval(s, scope, at)
	if e != api.OK {
		return "", e
	}
	return xvalue.String(m.tree, v), api.OK
}

func (m *model) template(s string, scope []api.Pair, at place) (string, api.Errno) {
	parts, e := xsheet.Text(s)
	if e != api.OK {
		return "", e
	}
	for i := 1; i < len(parts); i += 2 {
		if parts[i], e = m.evalText(parts[i], scope, at); e != api.OK {
			return "", e
		}
	}
	text := strings.Join(parts, "")
	if len(text) > api.MaxText {
		return "", api.ErrLimit
	}
	return text, api.OK
}

func (m *model) bodyText(l []api.Instr, at place) (string, api.Errno) {
	at.b = xbuild.New()
	if e := m.body(l, at); e != api.OK {
		return "", e
	}
	if s := at.b.String(); len(s) <= api.MaxText {
		return s, api.OK
	}
	return "", api.ErrLimit
}

func (m *model) valueOf(i api.Instr, at place) (api.Value, api.Errno) {
	if i.Select != "" {
		return m.eval(i.Select, i.Scope, at)
	}
	s, e := m.bodyText(i.Kids, at)
	return api.Value{Kind: api.Strings, Text: s}, e
}

func (m *model) body(l []api.Instr, at place) api.Errno {
	for _, i := range l {
		if m.left == 0 {
			return api.ErrFuel
		}
		m.left--
		if i.Do == api.Let || i.Do == api.Given {
			v, e := api.Value{}, api.OK
			j := slices.IndexFunc(at.handed, func(h bound) bool { return h.name == i.Name })
			if i.Do == api.Given && j >= 0 {
				v = at.handed[j].value
			} else if v, e = m.valueOf(i, at); e != api.OK {
				return e
			}
			at.locals = &bound{i.Name, v, at.locals}
			continue
		}
		if e := m.do(i, at); e != api.OK {
			return e
		}
	}
	return api.OK
}

// first is the first error.
func first(l ...func() api.Errno) api.Errno {
	for _, f := range l {
		if e := f(); e != api.OK {
			return e
		}
	}
	return api.OK
}

func (m *model) qname(s string, scope []api.Pair, attr bool) (api.Name, api.Errno) {
	parts := strings.Split(s, ":")
	for _, p := range parts {
		if p == "" || strings.ContainsAny(p[:1], "0123456789-. ") || strings.ContainsAny(p, " {}<\x00") {
			return api.Name{}, api.ErrForm
		}
	}
	if len(parts) > 2 {
		return api.Name{}, api.ErrForm
	}
	n := api.Name{Local: parts[len(parts)-1]}
	if len(parts) == 2 {
		n.Prefix = parts[0]
	}
	for i := len(scope) - 1; i >= 0; i-- {
		if scope[i].Name == n.Prefix && !(attr && n.Prefix == "") {
			n.Uri = scope[i].Value
		}
	}
	if n.Prefix == "xml" {
		n.Uri = "http://www.w3.org/XML/1998/namespace"
	}
	if n.Prefix != "" && n.Uri == "" {
		return api.Name{}, api.ErrPrefix
	}
	return n, api.OK
}

func (m *model) do(i api.Instr, at place) api.Errno {
	var s, name string
	var v api.Value
	var n api.Name
	var e api.Errno
	text := func() api.Errno { s, e = m.bodyText(i.Kids, at); return e }
	tell := func() api.Errno { name, e = m.template(i.Name, i.Scope, at); return e }
	eval := func() api.Errno { v, e = m.eval(i.Select, i.Scope, at); return e }
	kids := func() api.Errno { return m.body(i.Kids, at) }
	closing := func() api.Errno { return at.b.Close() }
	switch i.Do {
	case api.Literal:
		return m.literal(i, at)
	case api.Words:
		return at.b.Text(i.Text)
	case api.ValueOf:
		return first(eval, func() api.Errno { return at.b.Text(xvalue.String(m.tree, v)) })
	case api.CopyOf:
		return first(eval, func() api.Errno { return m.copyOf(v, at.b) })
	case api.Copy:
		switch m.tree.Kind(at.node) {
		case api.Root:
			return kids()
		case api.Element:
			return first(func() api.Errno { return at.b.Open(m.tree.Name(at.node)) }, kids, closing)
		}
		return m.copyDeep(at.node, at.b)
	case api.Apply, api.Template:
		return m.hand(i, at)
	case api.Imports:
		if at.rule < 0 {
			return api.OK
		}
		r := m.sheet.Rules[at.rule]
		return m.applyOne(at, r.Mode, nil, true, r.Level)
	case api.ForEach:
		nodes, e := m.sorted(i, i.Select, at)
		for j := 0; j < len(nodes) && e == api.OK; j++ {
			inner := at
			inner.node, inner.at, inner.of = nodes[j], j+1, len(nodes)
			e = m.body(i.Kids, inner)
		}
		return e
	case api.If:
		return first(eval, func() api.Errno {
			if xvalue.Bool(m.tree, v) {
				return kids()
			}
			return api.OK
		})
	case api.Choose:
		return m.choose(i, at)
	case api.MakeElement:
		return first(tell, func() api.Errno { n, e = m.qname(name, i.Scope, false); return e }, func() api.Errno { return at.b.Open(n) }, kids, closing)
	case api.MakeAttr:
		return first(tell, func() api.Errno { n, e = m.qname(name, i.Scope, true); return e }, text, func() api.Errno { return at.b.Attr(n, s) })
	case api.MakeComment:
		return first(text, func() api.Errno { return at.b.Comment(s) })
	case api.MakePi:
		return first(tell, text, func() api.Errno { return at.b.Pi(name, s) })
	case api.Say:
		return first(text, func() api.Errno {
			m.messages = append(m.messages, s)
			if i.Flag {
				return api.ErrStop
			}
			return api.OK
		})
	case api.Count:
		return m.count(i, at)
	}
	return api.OK
}

func (m *model) literal(i api.Instr, at place) api.Errno {
	n, e := m.qname(i.Name, i.Scope, false)
	if e != api.OK {
		return e
	}
	if e := at.b.Open(n); e != api.OK {
		return e
	}
	for _, p := range i.Scope {
		if p.Value == "http://www.w3.org/1999/XSL/Transform" {
			continue
		}
		if e := at.b.Declare(p.Name, p.Value); e != api.OK {
			return e
		}
	}
	for _, a := range i.Attrs {
		if strings.HasPrefix(a.Name+":", "xmlns:") {
			continue
		}
		n, e := m.qname(a.Name, i.Scope, true)
		if e != api.OK {
			return e
		}
		s, e := m.template(a.Value, i.Scope, at)
		if e != api.OK {
			return e
		}
		if e := at.b.Attr(n, s); e != api.OK {
			return e
		}
	}
	if e := m.body(i.Kids, at); e != api.OK {
		return e
	}
	return at.b.Close()
}

func (m *model) copyOf(v api.Value, b *xbuild.Builder) api.Errno {
	if v.Kind != api.Nodes {
		return b.Text(xvalue.String(m.tree, v))
	}
	for _, n := range v.Nodes {
		if e := m.copyDeep(n, b); e != api.OK {
			return e
		}
	}
	return api.OK
}

// copyDeep copies by the flat list of all nodes, and how deep they lie.
func (m *model) copyDeep(n int, b *xbuild.Builder) api.Errno {
	all := m.tree.Nodes()
	begin, open := all[n].Deep, b.Deep()
	var e api.Errno
	for i := n; i < len(all) && (i == n || all[i].Deep > begin) && e == api.OK; i++ {
		x := all[i]
		for x.Kind != api.Attr && x.Kind != api.Root && b.Deep() > open+x.Deep-max(begin, 1) {
			b.Close()
		}
		switch x.Kind {
		case api.Element:
			e = b.Open(x.Name)
		case api.Attr:
			e = b.Attr(x.Name, x.Text)
		case api.Text:
			e = b.Text(x.Text)
		case api.Comment:
			e = b.Comment(x.Text)
		case api.Pi:
			e = b.Pi(x.Name.Local, x.Text)
		}
	}
	for b.Deep() > open {
		b.Close()
	}
	return e
}

// sorted sorts by putting each node behind the last one that is not behind it.
func (m *model) sorted(i api.Instr, selected string, at place) ([]int, api.Errno) {
	v, e := m.eval(selected, i.Scope, at)
	if e == api.OK && v.Kind != api.Nodes {
		e = api.ErrKind
	}
	if e != api.OK {
		return nil, e
	}
	type keyed struct {
		node int
		keys []api.Value
	}
	var sorts []api.Instr
	for _, k := range i.Kids {
		if k.Do == api.Sort {
			sorts = append(sorts, k)
		}
	}
	behind := func(a, b keyed) bool {
		for j, s := range sorts {
			x, y := a.keys[j], b.keys[j]
			if s.Flag {
				x, y = y, x
			}
			if s.Text == "number" && x.Num != y.Num {
				return xnum.Less(y.Num, x.Num)
			}
			if s.Text != "number" && x.Text != y.Text {
				return x.Text > y.Text
			}
		}
		return false
	}
	var l []keyed
	for j, n := range v.Nodes {
		one := keyed{node: n}
		inner := at
		inner.node, inner.at, inner.of = n, j+1, len(v.Nodes)
		for _, s := range sorts {
			how := s.Select
			if how == "" {
				how = "."
			}
			x, e := m.eval(how, s.Scope, inner)
			if e != api.OK {
				return nil, e
			}
			one.keys = append(one.keys, api.Value{Text: xvalue.String(m.tree, x), Num: xvalue.Number(m.tree, x)})
		}
		k := len(l)
		for k > 0 && behind(l[k-1], one) {
			k--
		}
		l = slices.Insert(l, k, one)
	}
	var nodes []int
	for _, one := range l {
		nodes = append(nodes, one.node)
	}
	return nodes, api.OK
}

func (m *model) hand(i api.Instr, at place) api.Errno {
	var nodes []int
	if i.Do == api.Apply {
		selected := i.Select
		if selected == "" {
			selected = "node()"
		}
		var e api.Errno
		if nodes, e = m.sorted(i, selected, at); e != api.OK {
			return e
		}
	}
	var handed []bound
	for _, k := range i.Kids {
		if k.Do == api.With {
			v, e := m.valueOf(k, at)
			if e != api.OK {
				return e
			}
			handed = append(handed, bound{name: k.Name, value: v})
		}
	}
	if i.Do == api.Apply {
		for j, n := range nodes {
			if e := m.applyOne(place{n, j + 1, len(nodes), -1, at.deep, nil, nil, at.b}, i.Mode, handed, false, 0); e != api.OK {
				return e
			}
		}
		return api.OK
	}
	if at.deep++; at.deep > api.MaxFrames {
		return api.ErrLimit
	}
	at.locals, at.handed = nil, handed
	for j := len(m.sheet.Rules) - 1; j >= 0; j-- {
		if m.sheet.Rules[j].Name == i.Name {
			return m.body(m.sheet.Rules[j].Body, at)
		}
	}
	panic("no such name")
}

// applyOne looks for the rule that no other one beats.
func (m *model) applyOne(at place, mode string, handed []bound, above bool, level int) api.Errno {
	if m.left == 0 {
		return api.ErrFuel
	}
	m.left--
	if at.deep++; at.deep > api.MaxFrames {
		return api.ErrLimit
	}
	at.locals, at.handed, at.rule = nil, handed, -1
	names, values := m.lists(at)
	var greatest api.Num
	for j, r := range m.sheet.Rules {
		if r.Match == "" || r.Mode != mode || above && r.Level <= level {
			continue
		}
		p := m.patterns[j]
		priority := api.Num{Kind: api.MinusInf}
		for _, w := range p.Which(m.tree, at.node, names, values) {
			if xnum.Less(priority, p.Priority(w)) {
				priority = p.Priority(w)
			}
		}
		if priority.Kind == api.MinusInf {
			continue
		}
		if r.Own {
			priority = r.Priority
		}
		if at.rule < 0 || r.Level < m.sheet.Rules[at.rule].Level || r.Level == m.sheet.Rules[at.rule].Level && !xnum.Less(priority, greatest) {
			at.rule, greatest = j, priority
		}
	}
	if at.rule >= 0 {
		return m.body(m.sheet.Rules[at.rule].Body, at)
	}
	switch m.tree.Kind(at.node) {
	case api.Root, api.Element:
		kids := m.tree.Kids(at.node)
		for j, k := range kids {
			inner := at
			inner.node, inner.at, inner.of = k, j+1, len(kids)
			if e := m.applyOne(inner, mode, nil, false, 0); e != api.OK {
				return e
			}
		}
	case api.Text, api.Attr:
		return at.b.Text(m.tree.String(at.node))
	}
	return api.OK
}

func (m *model) choose(i api.Instr, at place) api.Errno {
	for _, k := range i.Kids {
		if k.Do == api.Otherwise {
			return m.body(k.Kids, at)
		}
		if k.Do == api.When {
			v, e := m.eval(k.Select, k.Scope, at)
			if e != api.OK {
				return e
			}
			if xvalue.Bool(m.tree, v) {
				return m.body(k.Kids, at)
			}
		}
	}
	return api.OK
}

func (m *model) count(i api.Instr, at place) api.Errno {
	n := 1
	if i.Select != "" {
		v, e := m.eval(i.Select, i.Scope, at)
		if e != api.OK {
			return e
		}
		x := xnum.Floor(xnum.Add(xvalue.Number(m.tree, v), api.Num{V: api.Places / 2}))
		if xnum.Less(x, xnum.Int(1)) || xnum.Less(xnum.Int(1000000000), x) {
			return api.ErrRange
		}
		n = int(x.V / api.Places)
	} else {
		own := m.tree.Name(at.node)
		for _, s := range xeval.Axis(m.tree, at.node, api.PrecedingSibling) {
			name := m.tree.Name(s)
			if m.tree.Kind(s) == m.tree.Kind(at.node) && name.Local == own.Local && name.Uri == own.Uri {
				n++
			}
		}
	}
	format, e := m.template(i.Text, i.Scope, at)
	if e != api.OK {
		return e
	}
	s, e := xsort.Format(n, format)
	if e != api.OK {
		return e
	}
	return at.b.Text(s)
}
