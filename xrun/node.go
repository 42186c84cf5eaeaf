package xrun

import (
	"slices"

	"stencil/api"
	"stencil/xvalue"
)

type literal struct {
	name  string
	scope scope
	attrs []literalAttr
	kids  body
}

type literalAttr struct {
	name  string
	value pieces
}

func (x literal) do(f *frame) {
	demand(f.out.Open(x.scope.elementName(x.name)))
	// The first one of a prefix counts, and so is declared last.
	for _, p := range slices.Backward(x.scope) {
		if p.Value != transformUri {
			demand(f.out.Declare(p.Name, p.Value))
		}
	}
	for _, a := range x.attrs {
		name := x.scope.attributeName(a.name)
		demand(f.out.Attr(name, a.value.text(f)))
	}
	x.kids.do(*f)
	demand(f.out.Close())
}

// making is what is told of an element or attribute that is made.
type making struct {
	name  pieces
	scope scope
	kids  body
}

type makeElement struct {
	making
}

func (x makeElement) do(f *frame) {
	f.doInElement(x.scope.elementName(x.name.text(f)), x.kids)
}

// doInElement does a body in an element that it makes.
func (f *frame) doInElement(name api.Name, kids body) {
	demand(f.out.Open(name))
	kids.do(*f)
	demand(f.out.Close())
}

type makeAttr struct {
	making
}

func (x makeAttr) do(f *frame) {
	name := x.scope.attributeName(x.name.text(f))
	demand(f.out.Attr(name, x.kids.text(f)))
}

type makeComment struct {
	kids body
}

func (x makeComment) do(f *frame) { demand(f.out.Comment(x.kids.text(f))) }

type makePi struct {
	name pieces
	kids body
}

func (x makePi) do(f *frame) {
	name := x.name.text(f)
	demand(f.out.Pi(name, x.kids.text(f)))
}

type copyOf struct {
	expression
}

func (x copyOf) do(f *frame) {
	told := x.value(f)
	if told.Kind != api.Nodes {
		demand(f.out.Text(xvalue.String(f.tree, told)))
		return
	}
	f.copyAll(told.Nodes)
}

// shallowCopy is copy.
type shallowCopy struct {
	kids body
}

func (x shallowCopy) do(f *frame) {
	switch f.tree.Kind(f.node) {
	case api.Root:
		x.kids.do(*f)
	case api.Element:
		f.doInElement(f.tree.Name(f.node), x.kids)
	default:
		f.copyNode(f.node)
	}
}

func (f *frame) copyAll(nodes []int) {
	for _, n := range nodes {
		f.copyNode(n)
	}
}

// copyNode copies a node, with all that lies in it.
func (f *frame) copyNode(n int) {
	t := f.tree
	switch t.Kind(n) {
	case api.Root:
		f.copyAll(t.Kids(n))
	case api.Element:
		demand(f.out.Open(t.Name(n)))
		f.copyAll(t.Attrs(n))
		f.copyAll(t.Kids(n))
		demand(f.out.Close())
	case api.Attr:
		demand(f.out.Attr(t.Name(n), t.Text(n)))
	case api.Text:
		demand(f.out.Text(t.Text(n)))
	case api.Comment:
		demand(f.out.Comment(t.Text(n)))
	case api.Pi:
		demand(f.out.Pi(t.Name(n).Local, t.Text(n)))
	}
}

// likeness is what siblings that are counted together have in common.
type likeness struct {
	kind       api.Kind
	uri, local string
}

// placeAmongAlike is a node's place among its siblings of the same kind and name. All of them are counted at once, for that takes no fuel and yet may take long.
func (r *run) placeAmongAlike(node int) int {
	if place, known := r.places[node]; known {
		return place
	}
	// The root and attributes are no one's kids.
	r.places[node] = 1
	counts := map[likeness]int{}
	for _, n := range r.tree.Kids(r.tree.Parent(node)) {
		name := r.tree.Name(n)
		alike := likeness{r.tree.Kind(n), name.Uri, name.Local}
		counts[alike]++
		r.places[n] = counts[alike]
	}
	return r.places[node]
}
