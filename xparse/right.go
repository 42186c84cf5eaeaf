package xparse

import (
	"stencil/api"
	"stencil/xchar"
	"stencil/xnum"
	"stencil/xplex"
)

// judge looks through an expression, and counts what it has seen.
// A list of Kids may hold itself, so that nothing but the limits may end the walk.
type judge struct {
	seen int
}

// right tells of an expression by itself; NoOp, Top and Steps are but parts of a Path.
func (j *judge) right(e api.Expr, deep int) bool {
	return api.Or <= e.Op && e.Op <= api.Path && j.rightPart(e, deep)
}

func (j *judge) rightPart(e api.Expr, deep int) bool {
	j.seen++
	return deep <= api.MaxDeep && j.seen <= api.MaxTokens && rightFields(e) && j.rightKids(e, deep+1)
}

func (j *judge) rightKids(e api.Expr, deep int) bool {
	n := len(e.Kids)
	switch e.Op {
	case api.NoOp, api.Top, api.Number, api.String, api.Variable:
		return n == 0
	case api.Path:
		return j.rightPath(e.Kids, deep)
	case api.Call, api.Step:
	case api.Neg:
		if n != 1 {
			return false
		}
	case api.Filter:
		if n < 2 || e.Kids[0].Op == api.Filter {
			return false
		}
	default:
		if n != 2 {
			return false
		}
	}
	return j.allRight(e.Kids, deep)
}

func (j *judge) allRight(kids []api.Expr, deep int) bool {
	for _, k := range kids {
		if !j.right(k, deep) {
			return false
		}
	}
	return true
}

func (j *judge) rightPath(kids []api.Expr, deep int) bool {
	if len(kids) == 0 || len(kids) == 1 && kids[0].Op != api.Top {
		return false
	}
	if !j.rightBeginning(kids[0], deep) {
		return false
	}
	for _, k := range kids[1:] {
		if k.Op != api.Step || !j.rightPart(k, deep) {
			return false
		}
	}
	return true
}

func (j *judge) rightBeginning(e api.Expr, deep int) bool {
	if e.Op == api.NoOp || e.Op == api.Top {
		return j.rightPart(e, deep)
	}
	return j.right(e, deep)
}

// rightFields empties the fields that mean something, once they are looked at: what is left must be empty.
func rightFields(e api.Expr) bool {
	ok := true
	switch e.Op {
	case api.Number:
		ok = xnum.Right(e.Num) && e.Num.Kind == api.Fin && e.Num.V >= 0
		e.Num = api.Num{}
	case api.String:
		ok = isLiteral(e.Text)
		e.Text = ""
	case api.Variable:
		ok = isQName(e.Text)
		e.Text = ""
	case api.Call:
		_, isType := typeOf(e.Text)
		ok = isQName(e.Text) && !isType
		e.Text = ""
	case api.Step:
		ok = 0 <= e.Axis && int(e.Axis) < len(axes) && rightTest(e.Test, e.Text)
		e.Axis, e.Test, e.Text = 0, 0, ""
	}
	return ok && e.Text == "" && e.Num == (api.Num{}) && e.Axis == 0 && e.Test == 0
}

func rightTest(test api.Test, text string) bool {
	switch test {
	case api.AnyName, api.AnyNode, api.AnyText, api.AnyComment:
		return text == ""
	case api.AnyLocal:
		return xchar.IsName(text)
	case api.OneName:
		return isQName(text)
	case api.AnyPi:
		return isLiteral(text)
	}
	return false
}

func isQName(s string) bool {
	_, _, ok := xchar.Split(s)
	return ok
}

// isLiteral tells whether a text can be a string of an expression.
func isLiteral(s string) bool {
	_, fault := xplex.Literal(s)
	return fault == api.OK && xchar.IsText(s)
}
