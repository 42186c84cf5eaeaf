package xpattern

import (
	"iter"

	"stencil/api"
)

// sides yields what an expression is a union of, from the left; ( ) around some of them play no part.
func sides(e api.Expr) iter.Seq[api.Expr] {
	return func(yield func(api.Expr) bool) {
		if e.Op != api.Union {
			yield(e)
			return
		}
		for _, kid := range e.Kids {
			for side := range sides(kid) {
				if !yield(side) {
					return
				}
			}
		}
	}
}

// arePaths tells whether all expressions are paths of patterns.
func arePaths(l []api.Expr) bool {
	for _, e := range l {
		if e.Op != api.Path {
			goto none
		}
		if first := e.Kids[0].Op; first != api.NoOp && first != api.Top {
			goto none
		}
		for i := range e.Kids[1:] {
			if !mayStand(e, i+1) {
				goto none
			}
		}
	}
	return true
none:
	return false
}

// mayStand tells whether a path's Kid, which is a step, may stand where it does.
func mayStand(e api.Expr, i int) bool {
	step := e.Kids[i]
	if step.Axis == api.Child || step.Axis == api.Attribute {
		return true
	}
	first, last := i == 1, i == len(e.Kids)-1
	return isAnyBelow(step) && !last && (!first || e.Kids[0].Op == api.Top)
}

// isAnyBelow tells whether a step is the one that // stands for.
func isAnyBelow(step api.Expr) bool {
	return step.Axis == api.DescendantOrSelf && step.Test == api.AnyNode && len(step.Kids) == 0
}
