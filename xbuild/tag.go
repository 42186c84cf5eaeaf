package xbuild

import (
	"maps"
	"slices"
	"strconv"

	"stencil/api"
)

// meaning is what a prefix stands for; empty: nothing.
type meaning struct {
	uri string
}

// scope is what prefixes stand for. Elements share it, so it is copied ahead of a change.
type scope map[string]meaning

// tag is an element's, while its prefixes are looked at.
type tag struct {
	around scope
	// here is what was declared, and what prefixes stand for that a name of the tag has, also if they do so around already: else an attribute could take the prefix of a name ahead of it.
	here scope
}

// qname is a name with a prefix that stands for its Uri from now on.
func (t *tag) qname(n api.Name) string {
	found, known := t.here[n.Prefix]
	if known && found.uri != n.Uri && n.Uri != "" {
		n.Prefix = t.freePrefix()
	}
	// A name without a Uri has no other prefix: what was declared for none goes.
	t.here[n.Prefix] = meaning{n.Uri}
	if n.Prefix == "" {
		return n.Local
	}
	return n.Prefix + ":" + n.Local
}

// attribute is likewise the name of one; without a prefix it has no Uri, whatever the scope says.
func (t *tag) attribute(n api.Name) string {
	if n.Prefix == "" {
		return n.Local
	}
	return t.qname(n)
}

func (t *tag) freePrefix() string {
	for i := 0; ; i++ {
		prefix := "ns" + strconv.Itoa(i)
		if _, known := t.here[prefix]; !known && t.around[prefix].uri == "" {
			return prefix
		}
	}
}

// declarations are those that do not stand so around, by their prefixes.
func (t *tag) declarations() []api.Pair {
	var l []api.Pair
	for _, prefix := range slices.Sorted(maps.Keys(t.here)) {
		uri := t.here[prefix].uri
		switch {
		case t.around[prefix].uri == uri:
		case prefix == "":
			l = append(l, api.Pair{Name: "xmlns", Value: uri})
		default:
			l = append(l, api.Pair{Name: "xmlns:" + prefix, Value: uri})
		}
	}
	return l
}

// inner is what prefixes stand for in the element.
func (t *tag) inner() scope {
	all := maps.Clone(t.around)
	maps.Copy(all, t.here)
	return all
}
