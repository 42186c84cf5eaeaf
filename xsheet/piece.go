package xsheet

import (
	"iter"
	"slices"
	"strings"

	"stencil/api"
	"stencil/xchar"
	"stencil/xdm"
)

// piece is an element or a text of a stylesheet's tree.
type piece struct {
	tree *xdm.Tree
	node int
}

// pieces yields what lies right in it and plays a part.
func (p piece) pieces() iter.Seq[piece] {
	return func(yield func(piece) bool) {
		for _, n := range p.tree.Kids(p.node) {
			if k := (piece{p.tree, n}); k.playsPart() && !yield(k) {
				return
			}
		}
	}
}

func (p piece) playsPart() bool {
	return p.isElement() || p.isText() && xchar.Trim(p.tree.Text(p.node)) != ""
}

func (p piece) isElement() bool { return p.tree.Kind(p.node) == api.Element }

func (p piece) isText() bool { return p.tree.Kind(p.node) == api.Text }

// says is the name of an element that says something to the compiler; empty of literal ones and texts.
func (p piece) says() string {
	if name := p.tree.Name(p.node); name.Uri == transformUri {
		return name.Local
	}
	return ""
}

// attrs yields an element's attributes, in order.
func (p piece) attrs() iter.Seq2[api.Name, string] {
	return func(yield func(api.Name, string) bool) {
		for _, n := range p.tree.Attrs(p.node) {
			if !yield(p.tree.Name(n), p.tree.Text(n)) {
				return
			}
		}
	}
}

// attr is the text of an attribute without a Uri.
func (p piece) attr(local string) (string, bool) {
	for name, text := range p.attrs() {
		if name.Uri == "" && name.Local == local {
			return text, true
		}
	}
	return "", false
}

// demandAttrs gives up an element without one of the attributes that must be there, or with one that is neither of these nor of those that may be there.
func (p piece) demandAttrs(must, may string) {
	known := strings.Fields(must + " " + may)
	for name := range p.attrs() {
		other := name.Uri != "" && name.Uri != transformUri
		demand(other || name.Uri == "" && slices.Contains(known, name.Local))
	}
	for _, local := range strings.Fields(must) {
		_, ok := p.attr(local)
		demand(ok)
	}
}

// demandEmpty gives up an element in which something stands.
func (p piece) demandEmpty() {
	for range p.pieces() {
		demand(false)
	}
}

func (p piece) scope() []api.Pair { return p.tree.Scope(p.node) }

// uri is what a prefix stands for in an element.
func (p piece) uri(prefix string) string {
	if prefix == "xml" {
		return xmlUri
	}
	for _, known := range p.scope() {
		if known.Name == prefix {
			return known.Value
		}
	}
	giveUp(api.ErrPrefix)
	return ""
}

func qname(name api.Name) string {
	if name.Prefix == "" {
		return name.Local
	}
	return name.Prefix + ":" + name.Local
}

func isQName(s string) bool {
	_, _, ok := xchar.Split(s)
	return ok
}
