package xrun

import (
	"slices"

	"stencil/api"
	"stencil/xbuild"
)

// spot is a node, and its place among so many.
type spot struct {
	node, place, size int
}

// variables are names with their values; of one name the first one holds.
type variables struct {
	names  []string
	values []api.Value
}

// add puts a variable behind the others.
func (v *variables) add(name string, value api.Value) {
	v.names = append(v.names, name)
	v.values = append(v.values, value)
}

// hold puts a variable ahead of the others, in lists of their own: those of the frames around stay as they are.
func (v *variables) hold(name string, value api.Value) {
	v.names = append([]string{name}, v.names...)
	v.values = append([]api.Value{value}, v.values...)
}

func (v *variables) find(name string) (api.Value, bool) {
	place := slices.Index(v.names, name)
	if place < 0 {
		return api.Value{}, false
	}
	return v.values[place], true
}

func textValue(s string) api.Value { return api.Value{Kind: api.Strings, Text: s} }

// frame is where instructions are done, with the variables that hold there.
type frame struct {
	*run
	variables
	spot
	rule   int       // the one that is run, or noRule
	deep   int       // how many templates lie around
	handed variables // what the template was given
	out    *xbuild.Builder
}

// at is the frame at another node.
func (f *frame) at(s spot) frame {
	other := *f
	other.spot = s
	return other
}

// within is a frame for a template: of all variables it has just those that are global.
func (f *frame) within(s spot, handed variables) frame {
	if f.deep == api.MaxFrames {
		demand(api.ErrLimit)
	}
	other := f.at(s)
	other.variables, other.handed = f.globals, handed
	other.deep++
	return other
}
