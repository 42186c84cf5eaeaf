package xrun

import (
	"slices"

	"stencil/api"
	"stencil/xchar"
)

// transformUri is that of stylesheets' own elements; xmlUri that of the prefix xml, which no scope has.
const (
	transformUri = "http://www.w3.org/1999/XSL/Transform"
	xmlUri       = "http://www.w3.org/XML/1998/namespace"
)

// scope is what prefixes stand for where an instruction stands.
type scope []api.Pair

// uri is what a prefix, or none, stands for; empty: nothing.
func (s scope) uri(prefix string) string {
	if prefix == "xml" {
		return xmlUri
	}
	place := slices.IndexFunc(s, func(p api.Pair) bool { return p.Name == prefix })
	if place < 0 {
		return ""
	}
	return s[place].Value
}

// elementName is the name of an element that a QName stands for.
func (s scope) elementName(qname string) api.Name {
	prefix, local, ok := xchar.Split(qname)
	if !ok {
		demand(api.ErrForm)
	}
	uri := s.uri(prefix)
	if prefix != "" && uri == "" {
		demand(api.ErrPrefix)
	}
	return api.Name{Uri: uri, Prefix: prefix, Local: local}
}

// attributeName is likewise that of an attribute, which without a prefix has no Uri.
func (s scope) attributeName(qname string) api.Name {
	n := s.elementName(qname)
	if n.Prefix == "" {
		n.Uri = ""
	}
	return n
}
