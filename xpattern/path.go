package xpattern

import (
	"iter"
	"math"
	"slices"

	"stencil/api"
	"stencil/xdm"
	"stencil/xeval"
)

// path is one of a pattern's, with its code inside.
type path struct {
	*xeval.Code
	priority    api.Num
	least, most int // how far above a node it may be asked to tell that node
}

func newPath(e api.Expr, code *xeval.Code) path {
	p := path{Code: code, priority: priorityOf(e)}
	p.least, p.most = span(e)
	return p
}

// matches tells whether the path tells a node, asked at it or above it. What has an error tells nothing.
func (p path) matches(t *xdm.Tree, n int, at xeval.Context) bool {
	for begin := range p.begins(t, n) {
		at.Node = begin
		told, _, fault := p.Run(t, at)
		if _, found := slices.BinarySearch(told.Nodes, n); fault == api.OK && found {
			return true
		}
	}
	return false
}

// begins yields those of a node and its ancestors at which the path may tell the node.
func (p path) begins(t *xdm.Tree, n int) iter.Seq[int] {
	return func(yield func(int) bool) {
		up := 0
		for at := n; at >= 0 && up <= p.most; at = t.Parent(at) {
			if up >= p.least && !yield(at) {
				return
			}
			up++
		}
	}
}

// span is between how many nodes up a path may begin: a step goes down by one, // by any number.
// What begins at the root tells the same wherever it is asked, so that once is enough.
func span(e api.Expr) (least, most int) {
	if e.Kids[0].Op == api.Top {
		return 0, 0
	}
	far := false
	for _, step := range e.Kids[1:] {
		if isAnyBelow(step) {
			far = true
		} else {
			least++
		}
	}
	if far {
		return least, math.MaxInt
	}
	return least, least
}

// priorityOf is what counts where several paths match: the less a path asks for, the less it counts.
func priorityOf(e api.Expr) api.Num {
	const (
		half    = api.Places / 2
		quarter = api.Places / 4
	)
	if e.Kids[0].Op != api.NoOp || len(e.Kids) != 2 || len(e.Kids[1].Kids) > 0 {
		return api.Num{V: half}
	}
	step := e.Kids[1]
	switch {
	case step.Test == api.OneName, step.Test == api.AnyPi && step.Text != "":
		return api.Num{}
	case step.Test == api.AnyLocal:
		return api.Num{V: -quarter}
	}
	return api.Num{V: -half}
}
