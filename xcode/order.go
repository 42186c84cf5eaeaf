package xcode

import (
	"iter"
	"slices"

	"stencil/api"
)

// mark is the value of maps that are asked for their keys alone.
type mark struct{}

// needs is which globals need which, while they are told one by one.
type needs struct {
	left    []map[string]mark // of each global the names that it needs and that are not told yet
	untold  map[string]int    // how many globals of a name are not told yet
	needing map[string][]int  // the places of those that need a name
	ready   []int             // the places of those that need nothing any more and are not told yet, rising
}

// reckon is the order of the globals; false, if some need each other.
func (p *Program) reckon() ([]int, bool) {
	globals := p.sheet.Globals
	n := p.needs()
	var order []int
	for len(n.ready) > 0 {
		next := n.ready[0]
		n.ready = n.ready[1:]
		order = append(order, next)
		n.tell(globals[next].Name)
	}
	return order, len(order) == len(globals)
}

func (p *Program) needs() *needs {
	globals := p.sheet.Globals
	n := &needs{untold: map[string]int{}, needing: map[string][]int{}}
	for i := range globals {
		n.untold[globals[i].Name]++
	}
	for place := range globals {
		left := map[string]mark{}
		for name := range p.variables(&globals[place]) {
			if n.untold[name] > 0 {
				left[name] = mark{}
			}
		}
		n.left = append(n.left, left)
		for name := range left {
			n.needing[name] = append(n.needing[name], place)
		}
		n.ask(place)
	}
	return n
}

// ask puts a global that needs nothing any more among those that are ready.
func (n *needs) ask(place int) {
	if len(n.left[place]) > 0 {
		return
	}
	at, _ := slices.BinarySearch(n.ready, place)
	n.ready = slices.Insert(n.ready, at, place)
}

// tell is that one global of a name is told.
func (n *needs) tell(name string) {
	n.untold[name]--
	if n.untold[name] > 0 {
		return
	}
	for _, place := range n.needing[name] {
		delete(n.left[place], name)
		n.ask(place)
	}
}

// variables yields the names that expressions in a global name as variables: those in its Select and in its Kids.
func (p *Program) variables(global *api.Instr) iter.Seq[string] {
	asked := []api.Instr{{Select: global.Select, Scope: global.Scope, Kids: global.Kids}}
	return func(yield func(string) bool) {
		for _, i := range within(asked, 1) {
			for text := range expressions(i) {
				for _, name := range p.codes[keyOf(text, i.Scope)].variables {
					if !yield(name) {
						return
					}
				}
			}
		}
	}
}
