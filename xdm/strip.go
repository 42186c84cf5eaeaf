package xdm

import (
	"stencil/api"
	"stencil/xchar"
)

// Strip is the tree without texts of blanks in elements of names (or *).
func (t *Tree) Strip(names ...string) *Tree {
	if t == nil {
		return nil
	}
	wanted := map[string]int{}
	for place, name := range names {
		wanted[name] = place
	}
	goes := func(n int) bool {
		return t.isBlank(n) && t.isNamed(t.Parent(n), wanted) && !t.preserves(n)
	}
	return t.without(goes)
}

func (t *Tree) isBlank(n int) bool {
	return t.Kind(n) == api.Text && xchar.Trim(t.Text(n)) == ""
}

// isNamed tells whether an element is one of those that are named.
func (t *Tree) isNamed(n int, wanted map[string]int) bool {
	if _, all := wanted["*"]; all {
		return true
	}
	name := t.Name(n)
	full := name.Local
	if name.Uri != "" {
		full = "{" + name.Uri + "}" + name.Local
	}
	_, ok := wanted[full]
	return ok
}

// preserves tells what the nearest xml:space around a node says.
func (t *Tree) preserves(n int) bool {
	for around := range t.upward(n) {
		for attr := range t.attrs(around) {
			if name := t.Name(attr); name.Uri == xmlUri && name.Local == "space" {
				return t.Text(attr) == "preserve"
			}
		}
	}
	return false
}

// without is the tree without nodes in which nothing lies.
func (t *Tree) without(goes func(int) bool) *Tree {
	// places tells of each number, the one behind the last node too, how many nodes stay ahead of it.
	places := make([]int, 0, t.Len()+1)
	var left []node
	for n, x := range t.nodes {
		places = append(places, len(left))
		if !goes(n) {
			left = append(left, x)
		}
	}
	places = append(places, len(left))
	for i := range left {
		left[i].end = places[left[i].end]
		if left[i].parent >= 0 {
			left[i].parent = places[left[i].parent]
		}
	}
	return &Tree{left}
}
