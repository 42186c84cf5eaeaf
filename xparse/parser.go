package xparse

import (
	"strings"

	"stencil/api"
	"stencil/xnum"
)

// parser reads an expression from its tokens, whatever its limits: what is none is told ahead of them.
type parser struct {
	tokens
	open, deepest int // how many ( ) it is in, and was at most
}

// whole is the expression that all tokens are; false, if they are none.
func (p *parser) whole() (e api.Expr, ok bool) {
	defer func() {
		switch reason := recover().(type) {
		case nil:
		case noExpression:
			e, ok = api.Expr{}, false
		default:
			panic(reason)
		}
	}()
	e = p.expression(orGrammar)
	if len(p.left) > 0 {
		giveUp()
	}
	return e, true
}

// expression reads one of a grammar, or of a stronger one; operators of one grammar go to the left.
func (p *parser) expression(grammar int) api.Expr {
	switch grammar {
	case negGrammar:
		return p.negative()
	case pathGrammar:
		return p.path()
	}
	e := p.expression(grammar + 1)
	for {
		op, ok := p.operatorOf(grammar)
		if !ok {
			return e
		}
		e = api.Expr{Op: op, Kids: []api.Expr{e, p.expression(grammar + 1)}}
	}
}

func (p *parser) operatorOf(grammar int) (api.Op, bool) {
	for _, o := range operators {
		if o.grammar == grammar && p.operator(o.sign) {
			return o.op, true
		}
	}
	return api.NoOp, false
}

func (p *parser) negative() api.Expr {
	if p.operator("-") {
		return api.Expr{Op: api.Neg, Kids: []api.Expr{p.negative()}}
	}
	return p.expression(negGrammar + 1)
}

func (p *parser) path() api.Expr {
	var kids []api.Expr
	switch {
	case p.operator("/"):
		kids = append(kids, api.Expr{Op: api.Top})
		if !p.beginsStep() {
			return api.Expr{Op: api.Path, Kids: kids}
		}
		kids = append(kids, p.step())
	case p.operator("//"):
		kids = append(kids, api.Expr{Op: api.Top}, anyBelow(), p.step())
	case p.beginsStep():
		kids = append(kids, api.Expr{}, p.step())
	default:
		kids = append(kids, p.filtered())
	}
	kids = p.moreSteps(kids)
	if len(kids) == 1 {
		return kids[0]
	}
	return api.Expr{Op: api.Path, Kids: kids}
}

func (p *parser) moreSteps(kids []api.Expr) []api.Expr {
	for {
		switch {
		case p.operator("/"):
		case p.operator("//"):
			kids = append(kids, anyBelow())
		default:
			return kids
		}
		kids = append(kids, p.step())
	}
}

// anyBelow is the step that // stands for.
func anyBelow() api.Expr {
	return api.Expr{Op: api.Step, Axis: api.DescendantOrSelf, Test: api.AnyNode}
}

func (p *parser) step() api.Expr {
	switch {
	case p.sign("."):
		return api.Expr{Op: api.Step, Axis: api.Self, Test: api.AnyNode}
	case p.sign(".."):
		return api.Expr{Op: api.Step, Axis: api.Parent, Test: api.AnyNode}
	}
	axis := p.axis()
	test, text := p.test()
	return api.Expr{Op: api.Step, Axis: axis, Test: test, Text: text, Kids: p.predicates(nil)}
}

func (p *parser) axis() api.Axis {
	if p.sign("@") {
		return api.Attribute
	}
	name, ok := p.takeAny(api.LexAxis)
	if !ok {
		return api.Child
	}
	p.need("::")
	axis, ok := axisOf(name)
	if !ok {
		giveUp()
	}
	return axis
}

func (p *parser) test() (api.Test, string) {
	name, ok := p.takeAny(api.LexName)
	if !ok {
		return p.typeTest()
	}
	if name == "*" {
		return api.AnyName, ""
	}
	if prefix, all := strings.CutSuffix(name, ":*"); all {
		return api.AnyLocal, prefix
	}
	return api.OneName, name
}

func (p *parser) typeTest() (api.Test, string) {
	name, _ := p.takeAny(api.LexType)
	test, ok := typeOf(name)
	if !ok {
		giveUp()
	}
	p.need("(")
	text := ""
	if test == api.AnyPi {
		text, _ = p.takeAny(api.LexString)
	}
	p.need(")")
	return test, text
}

// predicates reads those that stand next, and adds them to Kids.
func (p *parser) predicates(kids []api.Expr) []api.Expr {
	for p.sign("[") {
		kids = append(kids, p.expression(orGrammar))
		p.need("]")
	}
	return kids
}

func (p *parser) filtered() api.Expr {
	first := p.primary()
	if first.Op == api.Filter {
		first.Kids = p.predicates(first.Kids)
		return first
	}
	kids := p.predicates([]api.Expr{first})
	if len(kids) == 1 {
		return first
	}
	return api.Expr{Op: api.Filter, Kids: kids}
}

func (p *parser) primary() api.Expr {
	if p.sign("(") {
		return p.inBrackets()
	}
	if text, ok := p.takeAny(api.LexNumber); ok {
		return number(text)
	}
	if text, ok := p.takeAny(api.LexString); ok {
		return api.Expr{Op: api.String, Text: text}
	}
	if name, ok := p.takeAny(api.LexVariable); ok {
		return api.Expr{Op: api.Variable, Text: name}
	}
	name, ok := p.takeAny(api.LexFunction)
	if !ok {
		giveUp()
	}
	return api.Expr{Op: api.Call, Text: name, Kids: p.arguments()}
}

func number(text string) api.Expr {
	n := xnum.Parse(text)
	if n.Kind != api.Fin {
		giveUp()
	}
	return api.Expr{Op: api.Number, Num: n}
}

// inBrackets reads an expression and the ) behind it; ( ) leave no trace in it, so they are counted.
func (p *parser) inBrackets() api.Expr {
	p.open++
	p.deepest = max(p.deepest, p.open)
	e := p.expression(orGrammar)
	p.need(")")
	p.open--
	return e
}

func (p *parser) arguments() []api.Expr {
	var kids []api.Expr
	p.need("(")
	if p.sign(")") {
		return nil
	}
	for {
		kids = append(kids, p.expression(orGrammar))
		if !p.sign(",") {
			break
		}
	}
	p.need(")")
	return kids
}
