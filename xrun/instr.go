package xrun

import (
	"stencil/api"
	"stencil/xbuild"
	"stencil/xnum"
	"stencil/xsort"
)

// instruction is one that is made ready to be done.
type instruction interface {
	do(f *frame)
}

// body is instructions, one behind the other.
type body []instruction

// do does them in a frame of their own: the variables that they hold end with it.
func (b body) do(f frame) {
	for _, i := range b {
		f.take(1)
		i.do(&f)
	}
}

// text is all texts of what they build.
func (b body) text(f *frame) string {
	inner := *f
	inner.out = xbuild.New()
	b.do(inner)
	return limited(inner.out.String())
}

func (b body) value(f *frame) api.Value { return textValue(b.text(f)) }

// idle is what says something to the instruction that it stands in, and does nothing itself.
type idle struct{}

func (idle) do(*frame) {}

type words struct {
	words string
}

func (x words) do(f *frame) { demand(f.out.Text(x.words)) }

type valueOf struct {
	expression
}

func (x valueOf) do(f *frame) { demand(f.out.Text(x.text(f))) }

type branch struct {
	expression
	always bool // it is taken as it comes
	kids   body
}

func (x branch) isTaken(f *frame) bool { return x.always || x.isTrue(f) }

// branches are those of which the first one that is taken is done; an if is a single one.
type branches []branch

func (x branches) do(f *frame) {
	for _, one := range x {
		if one.isTaken(f) {
			one.kids.do(*f)
			return
		}
	}
}

type forEach struct {
	selection
	kids body
}

func (x forEach) do(f *frame) {
	nodes := x.nodes(f)
	for i, n := range nodes {
		x.kids.do(f.at(spot{n, i + 1, len(nodes)}))
	}
}

type apply struct {
	selection
	mode  string
	withs withs
}

func (x apply) do(f *frame) {
	nodes := x.nodes(f)
	f.applyToAll(nodes, application{choice{mode: x.mode, above: noRule}, x.withs.values(f)})
}

// imports is apply-imports.
type imports struct{}

func (imports) do(f *frame) {
	if f.rule == noRule {
		return
	}
	f.applyTo(f.spot, application{choice: choice{mode: f.sheet.Rules[f.rule].Mode, above: f.rule}})
}

type call struct {
	rule  int
	withs withs
}

func (x call) do(f *frame) {
	handed := x.withs.values(f)
	f.bodies[x.rule].do(f.within(f.spot, handed))
}

// variable is a name, and what it has its value from.
type variable struct {
	name   string
	source source
}

type let struct {
	variable
}

func (x let) do(f *frame) { f.hold(x.name, x.source.value(f)) }

type given struct {
	variable
}

func (x given) do(f *frame) {
	value, ok := f.handed.find(x.name)
	if !ok {
		value = x.source.value(f)
	}
	f.hold(x.name, value)
}

// withs are what a template is given.
type withs []variable

func (x withs) values(f *frame) variables {
	var handed variables
	for _, one := range x {
		handed.add(one.name, one.source.value(f))
	}
	return handed
}

type say struct {
	kids body
	ends bool
}

func (x say) do(f *frame) {
	f.messages = append(f.messages, x.kids.text(f))
	if x.ends {
		panic(stop{f.messages})
	}
}

// format is how a number is written.
type format struct {
	pieces
}

func (x format) write(f *frame, n int) {
	s, number := xsort.Format(n, x.text(f))
	demand(number)
	demand(f.out.Text(s))
}

// countValue is number of what its expression tells.
type countValue struct {
	expression expression
	format
}

func (x countValue) do(f *frame) {
	const most = 1000000000
	n := xnum.Round(x.expression.number(f))
	if xnum.Less(n, xnum.Int(1)) || xnum.Less(xnum.Int(most), n) {
		demand(api.ErrRange)
	}
	x.write(f, int(n.V/api.Places))
}

// countPlace is number of a node's place among those of its name.
type countPlace struct {
	format
}

func (x countPlace) do(f *frame) { x.write(f, f.placeAmongAlike(f.node)) }
