package xvalue

import (
	"stencil/api"
	"stencil/xdm"
)

// function is one of values: how many arguments it takes, and what it does with them.
type function struct {
	least, most int
	context     bool // without an argument it tells of a context, which no Call has
	nodes       bool // its argument must be nodes
	do          func(arguments) answer
}

// arguments are what a function is called with, and the tree of their nodes.
type arguments struct {
	tree *xdm.Tree
	list []api.Value
}

func (a arguments) text(i int) string { return String(a.tree, a.list[i]) }

func (a arguments) number(i int) api.Num { return Number(a.tree, a.list[i]) }

func (a arguments) truth(i int) bool { return Bool(a.tree, a.list[i]) }

// answer is what a function tells, or its error.
type answer struct {
	api.Value
	fault api.Errno
}

func aText(s string) answer {
	return answer{Value: api.Value{Kind: api.Strings, Text: s}}
}

func aNumber(n api.Num) answer {
	return answer{Value: api.Value{Kind: api.Numbers, Num: n}}
}

func aTruth(x bool) answer {
	return answer{Value: api.Value{Kind: api.Bools, Bool: x}}
}

// functions are all of them, by their names.
func functions() map[string]function {
	return map[string]function{
		"last":     {context: true},
		"position": {context: true},

		"boolean": {least: 1, most: 1, do: boolean},
		"not":     {least: 1, most: 1, do: not},
		"true":    {do: yes},
		"false":   {do: no},

		"number":  {most: 1, context: true, do: number},
		"floor":   {least: 1, most: 1, do: floor},
		"ceiling": {least: 1, most: 1, do: ceiling},
		"round":   {least: 1, most: 1, do: round},
		"sum":     {least: 1, most: 1, nodes: true, do: sum},
		"count":   {least: 1, most: 1, nodes: true, do: count},

		"string":           {most: 1, context: true, do: text},
		"concat":           {least: 2, most: 8, do: concat},
		"starts-with":      {least: 2, most: 2, do: startsWith},
		"contains":         {least: 2, most: 2, do: contains},
		"substring-before": {least: 2, most: 2, do: substringBefore},
		"substring-after":  {least: 2, most: 2, do: substringAfter},
		"string-length":    {most: 1, context: true, do: stringLength},
		"normalize-space":  {most: 1, context: true, do: normalizeSpace},
		"translate":        {least: 3, most: 3, do: translate},
		"substring":        {least: 2, most: 3, do: substring},
		"format-number":    {least: 2, most: 2, do: formatNumber},

		"name":          {most: 1, context: true, nodes: true, do: name},
		"local-name":    {most: 1, context: true, nodes: true, do: localName},
		"namespace-uri": {most: 1, context: true, nodes: true, do: namespaceUri},
	}
}

// Call is a function of values, that needs no context.
func Call(t *xdm.Tree, name string, l ...api.Value) (api.Value, api.Errno) {
	f, ok := functions()[name]
	switch {
	case !ok:
		return api.Value{}, api.ErrName
	case len(l) < f.least || len(l) > f.most || len(l) == 0 && f.context:
		return api.Value{}, api.ErrCount
	case f.nodes && l[0].Kind != api.Nodes:
		return api.Value{}, api.ErrKind
	}
	told := f.do(arguments{t, l})
	switch {
	case told.fault != api.OK:
		return api.Value{}, told.fault
	case len(told.Text) > api.MaxText:
		return api.Value{}, api.ErrLimit
	}
	return told.Value, api.OK
}

// Arity is how many arguments a function takes at least, and at most; false: there is none.
func Arity(name string) (least, most int, ok bool) {
	f, ok := functions()[name]
	return f.least, f.most, ok
}
