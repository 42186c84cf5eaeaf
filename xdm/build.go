package xdm

import (
	"stencil/api"
	"stencil/xmlscan"
)

// Parse is the tree of a text; Build that of tokens.
func Parse(s string) (*Tree, api.Errno) {
	l, e, _ := xmlscan.Scan(s)
	if e != api.OK {
		return nil, e
	}
	return Build(l...)
}

func Build(l ...api.Token) (*Tree, api.Errno) {
	_, e := xmlscan.Write(l...)
	// Write tells the same of a text that is too long, which a tree need not be.
	if e == api.ErrForm || e == api.ErrLimit && pastLimits(l) {
		return nil, e
	}
	var b builder
	b.begin(node{kind: api.Root, parent: -1})
	for _, t := range l {
		if e := b.add(t); e != api.OK {
			return nil, e
		}
	}
	b.finish()
	return &Tree{b.nodes}, api.OK
}

func pastLimits(l []api.Token) bool {
	deep, past := 0, len(l) > api.MaxNodes
	for _, t := range l {
		switch t.Kind {
		case api.Element:
			deep++
			past = past || deep > api.MaxDeep || len(t.Attrs) > api.MaxAttrs
		case api.End:
			deep--
		}
	}
	return past
}

// builder puts nodes one behind the other.
type builder struct {
	nodes []node
	open  []int // the root, and the elements that have not ended
}

func (b *builder) add(t api.Token) api.Errno {
	switch t.Kind {
	case api.Element:
		return b.element(t)
	case api.End:
		b.finish()
	case api.Pi:
		b.leaf(node{kind: t.Kind, name: api.Name{Local: t.Name}, text: t.Text})
	default:
		b.leaf(node{kind: t.Kind, text: t.Text})
	}
	return api.OK
}

func (b *builder) begin(x node) {
	b.open = append(b.open, len(b.nodes))
	b.nodes = append(b.nodes, x)
}

func (b *builder) finish() {
	inner := len(b.open) - 1
	b.nodes[b.open[inner]].end = len(b.nodes)
	b.open = b.open[:inner]
}

func (b *builder) leaf(x node) {
	b.begin(b.placed(x))
	b.finish()
}

// placed is a node in the innermost one that is open.
func (b *builder) placed(x node) node {
	x.deep = len(b.open)
	x.parent = b.open[x.deep-1]
	return x
}

func (b *builder) element(t api.Token) api.Errno {
	around := b.nodes[b.open[len(b.open)-1]].scope
	inner, ok := around.with(t.Attrs)
	if !ok {
		return api.ErrPrefix
	}
	name, ok := inner.expand(t.Name)
	if !ok {
		return api.ErrPrefix
	}
	attrs, e := inner.attributes(t.Attrs)
	if e != api.OK {
		return e
	}
	b.begin(b.placed(node{kind: t.Kind, name: name, scope: inner}))
	for _, a := range attrs {
		b.leaf(a)
	}
	return api.OK
}

// attributes are the nodes of a tag's attributes, without the declarations.
func (s scope) attributes(l []api.Pair) ([]node, api.Errno) {
	var attrs []node
	known := map[api.Name]int{}
	for i, a := range l {
		if _, declares := declared(a.Name); declares {
			continue
		}
		name, ok := s.expandAttribute(a.Name)
		if !ok {
			return nil, api.ErrPrefix
		}
		attrs = append(attrs, node{kind: api.Attr, name: name, text: a.Value})
		known[api.Name{Uri: name.Uri, Local: name.Local}] = i
	}
	if len(known) < len(attrs) {
		return nil, api.ErrKnown
	}
	return attrs, api.OK
}
