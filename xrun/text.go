package xrun

import (
	"strings"

	"stencil/api"
	"stencil/xeval"
	"stencil/xvalue"
)

// expression is one that is compiled, or what is wrong with it, which is not told but where it is asked for.
type expression struct {
	code  *xeval.Code
	wrong api.Errno
}

func (x expression) value(f *frame) api.Value {
	demand(x.wrong)
	told, steps, number := x.code.Run(f.tree, xeval.Context{
		Node: f.node, Place: f.place, Size: f.size,
		Names: f.names, Values: f.values,
		Steps: f.left,
	})
	demand(number)
	f.take(steps)
	return told
}

func (x expression) text(f *frame) string { return xvalue.String(f.tree, x.value(f)) }

func (x expression) number(f *frame) api.Num { return xvalue.Number(f.tree, x.value(f)) }

func (x expression) isTrue(f *frame) bool { return xvalue.Bool(f.tree, x.value(f)) }

// source is what a variable has its value from: an expression or a body.
type source interface {
	value(f *frame) api.Value
}

// pieces is a text's template: each of its texts but the last one with the expression behind it.
type pieces struct {
	texts       []string
	expressions []expression
}

func (p pieces) text(f *frame) string {
	var all strings.Builder
	for i, s := range p.texts {
		all.WriteString(s)
		if i < len(p.expressions) {
			all.WriteString(p.expressions[i].text(f))
		}
	}
	return limited(all.String())
}

// limited is a text that is not too long.
func limited(s string) string {
	if len(s) > api.MaxText {
		demand(api.ErrLimit)
	}
	return s
}
