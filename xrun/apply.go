package xrun

import (
	"stencil/api"
	"stencil/xnum"
)

// noRule is the place of none.
const noRule = -1

// choice is what a rule is chosen for.
type choice struct {
	node  int
	mode  string
	above int // the rule above whose level all must be; noRule: they need not
}

// application is how templates are applied: which rules are asked, and what they are given.
type application struct {
	choice
	handed variables
}

func (f *frame) applyToAll(nodes []int, a application) {
	for i, n := range nodes {
		f.applyTo(spot{n, i + 1, len(nodes)}, a)
	}
}

// applyTo applies templates to one node.
func (f *frame) applyTo(s spot, a application) {
	f.take(1)
	inner := f.within(s, a.handed)
	a.node = s.node
	inner.rule = f.ruleFor(a.choice)
	if inner.rule == noRule {
		inner.doWithoutRule(a.mode)
		return
	}
	f.bodies[inner.rule].do(inner)
}

// doWithoutRule is what stands for a rule where none matches.
func (f *frame) doWithoutRule(mode string) {
	switch f.tree.Kind(f.node) {
	case api.Root, api.Element:
		f.applyToAll(f.tree.Kids(f.node), application{choice: choice{mode: mode, above: noRule}})
	case api.Text, api.Attr:
		demand(f.out.Text(f.tree.Text(f.node)))
	}
}

// ruleFor remembers what was chosen, for patterns take no fuel and yet may take long.
func (r *run) ruleFor(c choice) int {
	place, known := r.chosen[c]
	if !known {
		place = r.choose(c)
		r.chosen[c] = place
	}
	return place
}

func (r *run) choose(c choice) int {
	best, greatest := noRule, api.Num{}
	for place := range r.sheet.Rules {
		if !r.isAsked(place, c) {
			continue
		}
		priority, matches := r.priority(place, c.node)
		if matches && (best == noRule || r.counts(place, priority, best, greatest)) {
			best, greatest = place, priority
		}
	}
	return best
}

func (r *run) isAsked(place int, c choice) bool {
	rule := r.sheet.Rules[place]
	return rule.Mode == c.mode && (c.above == noRule || rule.Level > r.sheet.Rules[c.above].Level)
}

// counts tells whether a rule counts more than another one that stands ahead of it.
func (r *run) counts(place int, priority api.Num, other int, otherPriority api.Num) bool {
	level, otherLevel := r.sheet.Rules[place].Level, r.sheet.Rules[other].Level
	if level != otherLevel {
		return level < otherLevel
	}
	return !xnum.Less(priority, otherPriority)
}

// priority is that of a rule at a node; false, if its pattern does not match.
func (r *run) priority(place, node int) (api.Num, bool) {
	pattern := r.program.Rule(place)
	paths := pattern.Which(r.tree, node, r.globals.names, r.globals.values)
	if len(paths) == 0 {
		return api.Num{}, false
	}
	if rule := r.sheet.Rules[place]; rule.Own {
		return rule.Priority, true
	}
	greatest := pattern.Priority(paths[0])
	for _, i := range paths[1:] {
		if p := pattern.Priority(i); xnum.Less(greatest, p) {
			greatest = p
		}
	}
	return greatest, true
}
