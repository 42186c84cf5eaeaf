package xbuild

import (
	"stencil/api"
	"stencil/xchar"
	"stencil/xmlscan"
)

const xmlUri = "http://www.w3.org/XML/1998/namespace"

func (b *Builder) isFull() bool { return b.nodes == api.MaxNodes }

// inner is where the next node goes.
func (b *Builder) inner() *content {
	if b.Deep() == 0 {
		return &b.top
	}
	return &b.innermost().content
}

// isAtTag tells whether the tag of an element can still be changed: whether one is open, and has nothing in it.
func (b *Builder) isAtTag() bool {
	return b.Deep() > 0 && b.innermost().isEmpty()
}

func (b *Builder) put(x node) {
	b.nodes++
	b.inner().add(x)
}

func (b *Builder) putLeaf(t api.Token) api.Errno {
	switch {
	case b == nil:
		return api.ErrNil
	case !mayStand(t):
		return api.ErrForm
	case b.isFull():
		return api.ErrLimit
	}
	b.put(leaf{Token: t})
	return api.OK
}

// mayStand tells whether a comment or processing instruction may stand in a document. How long a document is allowed to be is nothing of its form.
func mayStand(t api.Token) bool {
	_, fault := xmlscan.Write(t, api.Token{Kind: api.Element, Name: "a"}, api.Token{Kind: api.End, Name: "a"})
	return fault != api.ErrForm
}

func isElementName(n api.Name) bool {
	return xchar.IsName(n.Local) && mayStandFor(n.Prefix, n.Uri)
}

// isAttributeName tells whether a name is one of an attribute that is no declaration, and that can be read as the same.
func isAttributeName(n api.Name) bool {
	if n.Prefix == "" && (n.Uri != "" || n.Local == "xmlns") {
		return false
	}
	return isElementName(n)
}

func mayStandFor(prefix, uri string) bool {
	switch prefix {
	case "":
		return xchar.IsText(uri) && uri != xmlUri
	case "xmlns":
		return false
	case "xml":
		return uri == xmlUri
	}
	return xchar.IsName(prefix) && uri != "" && xchar.IsText(uri) && uri != xmlUri
}
