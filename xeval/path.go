package xeval

import (
	"stencil/api"
	"stencil/xnum"
	"stencil/xvalue"
)

// step goes from the nodes on the stack to those that it takes of each.
func (m *machine) step(r *row) api.Errno {
	from := m.pop()
	if from.Kind != api.Nodes {
		return api.ErrKind
	}
	var all []int
	for _, n := range from.Nodes {
		l, fault := m.onAxis(r, n)
		if fault == api.OK {
			l, fault = m.left(l, r.inner)
		}
		if fault != api.OK {
			return fault
		}
		all = append(all, l...)
	}
	m.pushNodes(xvalue.Union(all, nil)...)
	return api.OK
}

// onAxis are the nodes on a step's axis that its test takes; each one that it looks at is a step, taken or not.
func (m *machine) onAxis(r *row, from int) ([]int, api.Errno) {
	var l []int
	for n := range r.walk(spot{m.tree, from}) {
		if fault := m.spend(); fault != api.OK {
			return nil, fault
		}
		if r.takes(m.tree, n) {
			l = append(l, n)
		}
	}
	return l, api.OK
}

func (m *machine) filter(r *row) api.Errno {
	from := m.pop()
	if from.Kind != api.Nodes {
		return api.ErrKind
	}
	l, fault := m.left(from.Nodes, r.inner)
	m.pushNodes(l...)
	return fault
}

// left are the nodes that all predicates take, one predicate behind the other.
func (m *machine) left(l []int, predicates [][]row) ([]int, api.Errno) {
	around := m.Context
	for _, predicate := range predicates {
		var some []int
		for i, n := range l {
			m.Node, m.Place, m.Size = n, i+1, len(l)
			if fault := m.run(predicate); fault != api.OK {
				return nil, fault
			}
			if m.isTaken(m.pop()) {
				some = append(some, n)
			}
		}
		l = some
	}
	m.Context = around
	return l, api.OK
}

// isTaken tells what a predicate's value says of the context's node.
func (m *machine) isTaken(v api.Value) bool {
	if v.Kind == api.Numbers {
		return v.Num == xnum.Int(m.Place)
	}
	return xvalue.Bool(m.tree, v)
}
