package xcode

import (
	"strconv"
	"strings"

	"stencil/api"
	"stencil/xeval"
	"stencil/xparse"
	"stencil/xpattern"
)

// key tells expressions apart: the text, and what prefixes stand for in it.
type key [2]string

func keyOf(s string, scope []api.Pair) key {
	var prefixes strings.Builder
	for _, p := range scope {
		prefixes.WriteString(strconv.Quote(p.Name) + strconv.Quote(p.Value))
	}
	return key{s, prefixes.String()}
}

// compiled is an expression's code, and the names of its variables.
type compiled struct {
	*xeval.Code
	variables []string
}

func compileText(s string, scope []api.Pair) (compiled, api.Errno) {
	e, fault := xparse.Parse(s)
	if fault != api.OK {
		return compiled{}, fault
	}
	code, fault := xeval.Compile(e, scope)
	if fault != api.OK {
		return compiled{}, fault
	}
	return compiled{code, xparse.Names(e)}, api.OK
}

// compile compiles all that a sheet says, and tells the first error.
func (p *Program) compile() api.Errno {
	for place, rule := range p.sheet.Rules {
		if rule.Name != "" {
			p.named[rule.Name] = place
		}
	}
	for _, rule := range p.sheet.Rules {
		if fault := p.rule(rule); fault != api.OK {
			return fault
		}
	}
	return p.instructions(p.sheet.Globals)
}

func (p *Program) rule(rule api.Rule) api.Errno {
	var pattern *xpattern.Pattern
	if rule.Match != "" {
		made, fault := xpattern.Compile(rule.Match, rule.Scope)
		if fault != api.OK {
			return fault
		}
		pattern = made
	}
	p.patterns = append(p.patterns, pattern)
	return p.instructions(rule.Body)
}

func (p *Program) instructions(l []api.Instr) api.Errno {
	for _, i := range within(l, 1) {
		if fault := p.instruction(i); fault != api.OK {
			return fault
		}
	}
	return api.OK
}

func (p *Program) instruction(i *api.Instr) api.Errno {
	if _, ok := p.named[i.Name]; i.Do == api.Template && !ok {
		return api.ErrName
	}
	for text, fault := range expressions(i) {
		if fault == api.OK {
			fault = p.keep(text, i.Scope)
		}
		if fault != api.OK {
			return fault
		}
	}
	return api.OK
}

// keep compiles an expression, unless it is compiled already.
func (p *Program) keep(s string, scope []api.Pair) api.Errno {
	at := keyOf(s, scope)
	if _, known := p.codes[at]; known {
		return api.OK
	}
	made, fault := compileText(s, scope)
	if fault == api.OK {
		p.codes[at] = made
	}
	return fault
}
