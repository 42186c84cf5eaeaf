package xrun

import (
	"slices"

	"stencil/api"
	"stencil/xbuild"
	"stencil/xcode"
	"stencil/xdm"
)

// fault is what a run is given up with.
type fault struct {
	number api.Errno
}

// stop is what a message that ends all gives a run up with.
type stop struct {
	messages []string
}

// demand gives a run up, if there is an error.
func demand(number api.Errno) {
	if number != api.OK {
		panic(fault{number})
	}
}

// run is what is the same in all frames of one.
type run struct {
	program  *xcode.Program
	tree     *xdm.Tree
	sheet    api.Sheet
	bodies   []body // of the sheet's rules
	globals  variables
	chosen   map[choice]int // the rules that were chosen since the last global was added
	places   map[int]int    // of nodes among siblings that are alike, as far as they were asked for
	left     int            // fuel
	messages []string
}

func newRun(p *xcode.Program, t *xdm.Tree, fuel int) *run {
	r := &run{program: p, sheet: p.Sheet(), chosen: map[choice]int{}, places: map[int]int{}, left: fuel}
	r.tree = t.Strip(r.sheet.Strip...)
	for _, rule := range r.sheet.Rules {
		r.bodies = append(r.bodies, r.body(rule.Body))
	}
	return r
}

// answer does all of it.
func (r *run) answer(params []api.Pair) (a Answer, e api.Errno) {
	fuel := r.left
	defer func() {
		switch reason := recover().(type) {
		case nil:
		case stop:
			a, e = Answer{Messages: reason.messages}, api.ErrStop
		case fault:
			a, e = Answer{}, reason.number
		default:
			panic(reason)
		}
	}()
	for _, place := range r.program.Order() {
		r.addGlobal(r.sheet.Globals[place], params)
	}
	f := r.atRoot()
	f.applyTo(f.spot, application{choice: choice{above: noRule}})
	tokens, number := f.out.Tokens()
	demand(number)
	return Answer{Tokens: tokens, Messages: r.messages, Fuel: fuel - r.left}, api.OK
}

// addGlobal adds a variable or parameter of all to those that were reckoned ahead of it.
func (r *run) addGlobal(global api.Instr, params []api.Pair) {
	// It is an instruction that is done, though no body does it, and also where its value is handed in.
	r.take(1)
	value := r.globalValue(global, params)
	r.globals.add(global.Name, value)
	// A pattern may name it.
	clear(r.chosen)
}

func (r *run) globalValue(global api.Instr, params []api.Pair) api.Value {
	isIt := func(p api.Pair) bool { return p.Name == global.Name }
	if place := slices.IndexFunc(params, isIt); place >= 0 && global.Do == api.Given {
		return textValue(params[place].Value)
	}
	return r.source(global).value(r.atRoot())
}

// take is that so much fuel is used up.
func (r *run) take(fuel int) {
	if fuel > r.left {
		demand(api.ErrFuel)
	}
	r.left -= fuel
}

// atRoot is the frame in which a run begins, and with it each global: no template lies around it.
func (r *run) atRoot() *frame {
	return &frame{run: r, variables: r.globals, spot: spot{node: 0, place: 1, size: 1}, rule: noRule, out: xbuild.New()}
}
