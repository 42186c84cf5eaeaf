package xparse

import "stencil/api"

// Grammars, from the weakest to the strongest: an expression of one is made of those of stronger ones.
const (
	orGrammar = iota
	andGrammar
	equalGrammar
	orderGrammar
	sumGrammar
	productGrammar
	negGrammar
	unionGrammar
	pathGrammar
)

// operators are those with two Kids.
var operators = [...]struct {
	sign    string
	op      api.Op
	grammar int
}{
	{"or", api.Or, orGrammar},
	{"and", api.And, andGrammar},
	{"=", api.Eq, equalGrammar},
	{"!=", api.Ne, equalGrammar},
	{"<", api.Lt, orderGrammar},
	{"<=", api.Le, orderGrammar},
	{">", api.Gt, orderGrammar},
	{">=", api.Ge, orderGrammar},
	{"+", api.Add, sumGrammar},
	{"-", api.Sub, sumGrammar},
	{"*", api.Mul, productGrammar},
	{"div", api.Div, productGrammar},
	{"mod", api.Mod, productGrammar},
	{"|", api.Union, unionGrammar},
}

// signOf is the sign of an operator; false, if it is none of those with two Kids.
func signOf(op api.Op) (string, bool) {
	for _, o := range operators {
		if o.op == op {
			return o.sign, true
		}
	}
	return "", false
}

func grammarOf(op api.Op) int {
	for _, o := range operators {
		if o.op == op {
			return o.grammar
		}
	}
	if op == api.Neg {
		return negGrammar
	}
	return pathGrammar
}

// axes are their names, by their numbers.
var axes = [...]string{
	"child", "descendant", "parent", "ancestor", "following-sibling", "preceding-sibling",
	"following", "preceding", "attribute", "self", "descendant-or-self", "ancestor-or-self",
}

func axisOf(name string) (api.Axis, bool) {
	for i, axis := range axes {
		if axis == name {
			return api.Axis(i), true
		}
	}
	return 0, false
}

// types are the names of the tests from AnyNode on.
var types = [...]string{"node", "text", "comment", "processing-instruction"}

func typeOf(name string) (api.Test, bool) {
	for i, kind := range types {
		if kind == name {
			return api.AnyNode + api.Test(i), true
		}
	}
	return 0, false
}
