package xeval

import (
	"slices"
	"strings"

	"stencil/api"
	"stencil/xvalue"
)

const xmlUri = "http://www.w3.org/XML/1998/namespace"

// row is an instruction: what it does, and what it does it with.
type row struct {
	do       deed
	op       api.Op
	value    api.Value // that is told, whatever the context
	name     string    // of a variable, or a function
	count    int       // of arguments
	walk     walk      // of a step
	nodeTest           // of a step
	inner    [][]row   // what is asked for just where it is needed: the other side of Or and And, predicates
}

// compiler makes rows of an expression, in the order in which it is printed, and keeps the first fault that it meets.
type compiler struct {
	scope Scope
	deeds map[api.Op]deed
	calls map[string]deed
	walks map[api.Axis]walk
	fault api.Errno
}

// rows are those of an expression: what it needs stands ahead of what is done with it, and both behind its being asked for.
func (c *compiler) rows(e api.Expr) []row {
	own := c.row(e)
	var l []row
	if e.Op != api.NoOp && e.Op != api.Top && e.Op != api.Step {
		l = append(l, row{do: (*machine).ask})
	}
	for i, k := range e.Kids {
		if inner := c.rows(k); i < neededFirst(e) {
			l = append(l, inner...)
		} else {
			own.inner = append(own.inner, inner)
		}
	}
	// A Path does nothing but what it begins with and its steps do.
	if e.Op == api.Path {
		return l
	}
	return append(l, own)
}

// neededFirst is how many Kids are asked for in any case.
func neededFirst(e api.Expr) int {
	switch e.Op {
	case api.Step:
		return 0
	case api.Or, api.And, api.Filter:
		return 1
	}
	return len(e.Kids)
}

// row is what is done of an expression itself.
func (c *compiler) row(e api.Expr) row {
	r := row{do: c.deeds[e.Op], op: e.Op}
	switch e.Op {
	case api.Number:
		r.value = numberValue(e.Num)
	case api.String:
		r.value = api.Value{Kind: api.Strings, Text: e.Text}
	case api.Variable:
		r.name = e.Text
	case api.Call:
		c.call(e, &r)
	case api.Step:
		r.walk = c.walks[e.Axis]
		r.nodeTest = c.test(e)
	}
	return r
}

func (c *compiler) call(e api.Expr, r *row) {
	least, most, fault := c.arity(e.Text)
	r.name, r.count = e.Text, len(e.Kids)
	switch {
	case fault != api.OK:
		c.tell(fault)
	case r.count < least || r.count > most:
		c.tell(api.ErrCount)
	case r.count == 0 && most == 1:
		r.do, r.count = (*machine).callHere, 1
	}
	if own, ok := c.calls[e.Text]; ok {
		r.do = own
	}
}

// arity is that of a function, of those too that need a context.
func (c *compiler) arity(name string) (least, most int, fault api.Errno) {
	if prefix, _, ok := strings.Cut(name, ":"); ok {
		c.uri(prefix)
		return 0, 0, api.ErrName
	}
	if name == "lang" {
		return 1, 1, api.OK
	}
	least, most, ok := xvalue.Arity(name)
	if !ok {
		return 0, 0, api.ErrName
	}
	return least, most, api.OK
}

func (c *compiler) test(e api.Expr) nodeTest {
	x := nodeTest{test: e.Test, named: api.Element, local: e.Text}
	if e.Axis == api.Attribute {
		x.named = api.Attr
	}
	switch e.Test {
	case api.AnyLocal:
		x.uri, x.local = c.uri(e.Text), ""
	case api.OneName:
		if prefix, local, ok := strings.Cut(e.Text, ":"); ok {
			x.uri, x.local = c.uri(prefix), local
		}
	}
	return x
}

// uri is what a prefix stands for; ErrPrefix is kept, if that is nothing.
func (c *compiler) uri(prefix string) string {
	if prefix == "xml" {
		return xmlUri
	}
	uri := ""
	isIt := func(p api.Pair) bool { return p.Name == prefix }
	if place := slices.IndexFunc(c.scope, isIt); place >= 0 {
		uri = c.scope[place].Value
	}
	if uri == "" {
		c.tell(api.ErrPrefix)
	}
	return uri
}

func (c *compiler) tell(fault api.Errno) {
	if c.fault == api.OK {
		c.fault = fault
	}
}
