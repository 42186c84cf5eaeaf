package xbuild

import (
	"maps"
	"slices"
	"strings"

	"stencil/api"
)

// node is what lies in an element, or at the top.
type node interface {
	// take is false, but of a text, which goes on with what it takes.
	take(s string) bool
	tell(all *strings.Builder) // its texts
	// tokens are its own behind those of l.
	tokens(l []api.Token, around scope) []api.Token
	another() node // the same, sharing nothing that changes
}

// content is nodes, one behind the other.
type content struct {
	nodes []node
}

func (c *content) isEmpty() bool { return len(c.nodes) == 0 }

func (c *content) add(x node) { c.nodes = append(c.nodes, x) }

// goesOn is false, unless the last node is a text: then that goes on.
func (c *content) goesOn(s string) bool {
	return !c.isEmpty() && c.nodes[len(c.nodes)-1].take(s)
}

func (c *content) tell(all *strings.Builder) {
	for _, x := range c.nodes {
		x.tell(all)
	}
}

func (c *content) tokens(l []api.Token, around scope) []api.Token {
	for _, x := range c.nodes {
		l = x.tokens(l, around)
	}
	return l
}

func (c *content) copied() content {
	var other content
	for _, x := range c.nodes {
		other.add(x.another())
	}
	return other
}

// lastElement is the last node, where that is known to be an element: nothing stands behind one that is open.
func (c *content) lastElement() *element {
	return c.nodes[len(c.nodes)-1].(*element)
}

// noText is in nodes that are no texts.
type noText struct{}

func (noText) take(string) bool { return false }

type element struct {
	noText
	content
	name     api.Name
	attrs    []attribute
	declared scope // by Declare alone
}

type attribute struct {
	api.Name
	value string
}

// placeOf is the place of the attribute of that Uri and Local, or the one behind all.
func (x *element) placeOf(n api.Name) int {
	for i, a := range x.attrs {
		if a.Uri == n.Uri && a.Local == n.Local {
			return i
		}
	}
	return len(x.attrs)
}

func (x *element) tokens(l []api.Token, around scope) []api.Token {
	t := tag{around: around, here: maps.Clone(x.declared)}
	name := t.qname(x.name)
	var attrs []api.Pair
	for _, a := range x.attrs {
		attrs = append(attrs, api.Pair{Name: t.attribute(a.Name), Value: a.value})
	}
	declared := t.declarations()
	if len(declared) > 0 {
		around = t.inner()
	}
	l = append(l, api.Token{Kind: api.Element, Name: name, Attrs: append(declared, attrs...)})
	l = x.content.tokens(l, around)
	return append(l, api.Token{Kind: api.End, Name: name})
}

func (x *element) another() node {
	return &element{content: x.copied(), name: x.name, attrs: slices.Clone(x.attrs), declared: maps.Clone(x.declared)}
}

// words is a text, as bytes, for it may go on many times.
type words struct {
	text []byte
}

func (x *words) take(s string) bool {
	x.text = append(x.text, s...)
	return true
}

func (x *words) tell(all *strings.Builder) { all.Write(x.text) }

func (x *words) tokens(l []api.Token, _ scope) []api.Token {
	return append(l, api.Token{Kind: api.Text, Text: string(x.text)})
}

func (x *words) another() node { return &words{slices.Clone(x.text)} }

// leaf is a comment or processing instruction.
type leaf struct {
	noText
	api.Token
}

func (leaf) tell(*strings.Builder) {}

func (x leaf) tokens(l []api.Token, _ scope) []api.Token { return append(l, x.Token) }

func (x leaf) another() node { return x }
