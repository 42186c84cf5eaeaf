package xeval

import (
	"slices"

	"stencil/api"
	"stencil/xdm"
	"stencil/xnum"
	"stencil/xvalue"
)

// stack is the values that are told and not yet used.
type stack struct {
	values []api.Value
}

func (s *stack) push(v api.Value) { s.values = append(s.values, v) }

func (s *stack) pushNodes(nodes ...int) { s.push(api.Value{Kind: api.Nodes, Nodes: nodes}) }

func (s *stack) pushNumber(n api.Num) { s.push(numberValue(n)) }

func (s *stack) pushTruth(x bool) { s.push(api.Value{Kind: api.Bools, Bool: x}) }

func (s *stack) pop() api.Value { return s.popAll(1)[0] }

// popAll are the last values, in the order in which they were pushed; they stand till the next push.
func (s *stack) popAll(count int) []api.Value {
	left := len(s.values) - count
	last := s.values[left:]
	s.values = s.values[:left]
	return last
}

func numberValue(n api.Num) api.Value { return api.Value{Kind: api.Numbers, Num: n} }

// machine runs rows on a stack, at a context.
type machine struct {
	stack
	Context
	tree  *xdm.Tree
	taken int // steps
}

// deed is what an instruction does.
type deed func(*machine, *row) api.Errno

func deeds() map[api.Op]deed {
	return map[api.Op]deed{
		api.NoOp:     (*machine).here,
		api.Top:      (*machine).top,
		api.Or:       (*machine).or,
		api.And:      (*machine).and,
		api.Eq:       (*machine).compare,
		api.Ne:       (*machine).compare,
		api.Lt:       (*machine).compare,
		api.Le:       (*machine).compare,
		api.Gt:       (*machine).compare,
		api.Ge:       (*machine).compare,
		api.Add:      (*machine).add,
		api.Sub:      (*machine).sub,
		api.Mul:      (*machine).mul,
		api.Div:      (*machine).div,
		api.Mod:      (*machine).mod,
		api.Neg:      (*machine).neg,
		api.Union:    (*machine).union,
		api.Number:   (*machine).constant,
		api.String:   (*machine).constant,
		api.Variable: (*machine).variable,
		api.Call:     (*machine).call,
		api.Filter:   (*machine).filter,
		api.Step:     (*machine).step,
	}
}

func (m *machine) run(rows []row) api.Errno {
	for i := range rows {
		if fault := rows[i].do(m, &rows[i]); fault != api.OK {
			return fault
		}
	}
	return api.OK
}

// ask is an expression's being asked for.
func (m *machine) ask(*row) api.Errno { return m.spend() }

func (m *machine) spend() api.Errno {
	if m.taken >= m.Steps {
		return api.ErrFuel
	}
	m.taken++
	return api.OK
}

func (m *machine) here(*row) api.Errno {
	m.pushNodes(m.Node)
	return api.OK
}

func (m *machine) top(*row) api.Errno {
	m.pushNodes(0)
	return api.OK
}

func (m *machine) constant(r *row) api.Errno {
	m.push(r.value)
	return api.OK
}

func (m *machine) variable(r *row) api.Errno {
	place := slices.Index(m.Names, r.name)
	if place < 0 {
		return api.ErrName
	}
	m.push(m.Values[place])
	return api.OK
}

func (m *machine) or(r *row) api.Errno { return m.truth(r, true) }

func (m *machine) and(r *row) api.Errno { return m.truth(r, false) }

// truth is the first side's, if that tells it, else the other side's.
func (m *machine) truth(r *row, telling bool) api.Errno {
	if m.popTruth() == telling {
		m.pushTruth(telling)
		return api.OK
	}
	if fault := m.run(r.inner[0]); fault != api.OK {
		return fault
	}
	m.pushTruth(m.popTruth())
	return api.OK
}

func (m *machine) popTruth() bool { return xvalue.Bool(m.tree, m.pop()) }

func (m *machine) compare(r *row) api.Errno {
	two := m.popAll(2)
	m.pushTruth(xvalue.Compare(m.tree, r.op, two[0], two[1]))
	return api.OK
}

func (m *machine) add(*row) api.Errno { return m.reckon(xnum.Add) }

func (m *machine) sub(*row) api.Errno { return m.reckon(xnum.Sub) }

func (m *machine) mul(*row) api.Errno { return m.reckon(xnum.Mul) }

func (m *machine) div(*row) api.Errno { return m.reckon(xnum.Div) }

func (m *machine) mod(*row) api.Errno { return m.reckon(xnum.Mod) }

func (m *machine) reckon(by func(a, b api.Num) api.Num) api.Errno {
	two := m.popAll(2)
	m.pushNumber(by(xvalue.Number(m.tree, two[0]), xvalue.Number(m.tree, two[1])))
	return api.OK
}

func (m *machine) neg(*row) api.Errno {
	m.pushNumber(xnum.Neg(xvalue.Number(m.tree, m.pop())))
	return api.OK
}

func (m *machine) union(*row) api.Errno {
	two := m.popAll(2)
	if two[0].Kind != api.Nodes || two[1].Kind != api.Nodes {
		return api.ErrKind
	}
	m.pushNodes(xvalue.Union(two[0].Nodes, two[1].Nodes)...)
	return api.OK
}
