package xdm

import (
	"maps"
	"strings"

	"stencil/api"
	"stencil/xchar"
)

const xmlUri = "http://www.w3.org/XML/1998/namespace"

// meaning is what a prefix stands for.
type meaning struct {
	uri string
}

// scope is what prefixes stand for in an element; the empty prefix is there just if it stands for something, xml never.
// Elements share it, so it is copied ahead of a change.
type scope map[string]meaning

// with is the scope of an element with these attributes; false, if one of them is a declaration that may not be.
func (s scope) with(attrs []api.Pair) (scope, bool) {
	inner := s
	shared := true
	for _, a := range attrs {
		prefix, declares := declared(a.Name)
		if !declares {
			continue
		}
		if !mayDeclare(prefix, a.Value) {
			return nil, false
		}
		if shared {
			inner, shared = s.copied(), false
		}
		inner.declare(prefix, a.Value)
	}
	return inner, true
}

func (s scope) copied() scope {
	other := scope{}
	maps.Copy(other, s)
	return other
}

func (s scope) declare(prefix, uri string) {
	switch {
	case prefix == "xml":
	case uri == "":
		delete(s, prefix)
	default:
		s[prefix] = meaning{uri}
	}
}

// declared is the prefix that an attribute of that name declares.
func declared(name string) (string, bool) {
	if name == "xmlns" {
		return "", true
	}
	return strings.CutPrefix(name, "xmlns:")
}

func mayDeclare(prefix, uri string) bool {
	switch prefix {
	case "xmlns":
		return false
	case "xml":
		return uri == xmlUri
	case "":
		return uri != xmlUri
	}
	return uri != "" && uri != xmlUri
}

// expand is an element's name; false, if its prefix stands for nothing.
func (s scope) expand(qname string) (api.Name, bool) {
	prefix, local, _ := xchar.Split(qname)
	if prefix == "xml" {
		return api.Name{Uri: xmlUri, Prefix: prefix, Local: local}, true
	}
	found, ok := s[prefix]
	if !ok && prefix != "" {
		return api.Name{}, false
	}
	return api.Name{Uri: found.uri, Prefix: prefix, Local: local}, true
}

// expandAttribute likewise of an attribute's, which has no Uri without a prefix.
func (s scope) expandAttribute(qname string) (api.Name, bool) {
	if xchar.IsName(qname) {
		return api.Name{Local: qname}, true
	}
	return s.expand(qname)
}
