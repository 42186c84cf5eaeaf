package xparse

import (
	"strings"

	"stencil/api"
	"stencil/xnum"
	"stencil/xplex"
)

// writer writes right expressions, part behind part.
type writer struct {
	strings.Builder
}

func (w *writer) expression(e api.Expr) {
	switch e.Op {
	case api.Neg:
		w.negative(e.Kids[0])
	case api.Number:
		w.WriteString(xnum.Text(e.Num))
	case api.String:
		w.literal(e.Text)
	case api.Variable:
		w.WriteString("$" + e.Text)
	case api.Call:
		w.call(e)
	case api.Filter:
		w.filtered(e.Kids[0])
		w.predicates(e.Kids[1:])
	case api.Path:
		w.path(e.Kids[0], e.Kids[1:])
	default:
		w.operator(e)
	}
}

func (w *writer) inBrackets(e api.Expr) {
	w.WriteString("(")
	w.expression(e)
	w.WriteString(")")
}

// operand writes a Kid of an operator, in ( ), if it is weaker than a grammar; / alone would be read on with what stands behind it.
func (w *writer) operand(e api.Expr, weakest int) {
	if grammarOf(e.Op) < weakest || e.Op == api.Path && len(e.Kids) == 1 {
		w.inBrackets(e)
		return
	}
	w.expression(e)
}

func (w *writer) operator(e api.Expr) {
	sign, _ := signOf(e.Op)
	grammar := grammarOf(e.Op)
	w.operand(e.Kids[0], grammar)
	w.WriteString(" " + sign + " ")
	w.operand(e.Kids[1], grammar+1)
}

func (w *writer) negative(kid api.Expr) {
	w.WriteString("-")
	w.operand(kid, negGrammar)
}

func (w *writer) literal(text string) {
	quoted, _ := xplex.Literal(text)
	w.WriteString(quoted)
}

func (w *writer) call(e api.Expr) {
	w.WriteString(e.Text + "(")
	for i, k := range e.Kids {
		if i > 0 {
			w.WriteString(", ")
		}
		w.expression(k)
	}
	w.WriteString(")")
}

// filtered writes what predicates, or steps, stand behind.
func (w *writer) filtered(e api.Expr) {
	switch e.Op {
	case api.Number, api.String, api.Variable, api.Call:
		w.expression(e)
	default:
		w.inBrackets(e)
	}
}

func (w *writer) predicates(l []api.Expr) {
	for _, e := range l {
		w.WriteString("[")
		w.expression(e)
		w.WriteString("]")
	}
}

func (w *writer) path(first api.Expr, steps []api.Expr) {
	switch first.Op {
	case api.NoOp:
	case api.Top:
		w.WriteString("/")
	case api.Filter:
		w.expression(first)
		w.WriteString("/")
	default:
		w.filtered(first)
		w.WriteString("/")
	}
	for i, s := range steps {
		if i > 0 {
			w.WriteString("/")
		}
		w.step(s)
	}
}

func (w *writer) step(s api.Expr) {
	w.WriteString(axes[s.Axis] + "::")
	switch s.Test {
	case api.AnyName:
		w.WriteString("*")
	case api.AnyLocal:
		w.WriteString(s.Text + ":*")
	case api.OneName:
		w.WriteString(s.Text)
	default:
		w.WriteString(types[s.Test-api.AnyNode] + "(")
		if s.Text != "" {
			w.literal(s.Text)
		}
		w.WriteString(")")
	}
	w.predicates(s.Kids)
}
