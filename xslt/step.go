package xslt

import (
	"stencil/api"
	"stencil/xchar"
	"stencil/xcode"
	"stencil/xdm"
	"stencil/xout"
	"stencil/xrun"
	"stencil/xsheet"
)

// transformation is what it was given, and what each step makes of what the steps ahead of it made.
type transformation struct {
	doc       []byte
	name      string
	resources []api.Resource
	params    []api.Pair
	fuel      int

	sheet   api.Sheet
	program *xcode.Program
	text    string
	tree    *xdm.Tree
	xrun.Answer
	bytes []byte
}

// step is one, and tells its error.
type step func(*transformation) api.Errno

func allSteps() [6]step {
	return [...]step{
		(*transformation).load,
		(*transformation).compile,
		(*transformation).decode,
		(*transformation).parse,
		(*transformation).run,
		(*transformation).write,
	}
}

// take takes steps, as many as one likes, up to the first one that has an error.
func (x *transformation) take(steps ...step) api.Errno {
	for _, one := range steps {
		if fault := one(x); fault != api.OK {
			return fault
		}
	}
	return api.OK
}

func (x *transformation) load() (fault api.Errno) {
	x.sheet, fault = xsheet.Load(x.name, x.resources...)
	return fault
}

func (x *transformation) compile() (fault api.Errno) {
	x.program, fault = xcode.Compile(x.sheet)
	return fault
}

func (x *transformation) decode() (fault api.Errno) {
	x.text, fault, _ = xchar.Decode(x.doc)
	return fault
}

func (x *transformation) parse() (fault api.Errno) {
	x.tree, fault = xdm.Parse(x.text)
	return fault
}

func (x *transformation) run() (fault api.Errno) {
	x.Answer, fault = xrun.Run(x.program, x.tree, x.fuel, x.params...)
	return fault
}

func (x *transformation) write() (fault api.Errno) {
	x.bytes, fault = xout.Bytes(x.sheet.Method, x.sheet.Wide, x.Tokens...)
	return fault
}
