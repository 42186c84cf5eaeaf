package xcode

import (
	"slices"

	"stencil/api"
)

// copyOf is a sheet none of whose lists lies in another one's.
func copyOf(s api.Sheet) api.Sheet {
	s.Rules = slices.Clone(s.Rules)
	for i := range s.Rules {
		s.Rules[i].Body = copyOfAll(s.Rules[i].Body)
		s.Rules[i].Scope = slices.Clone(s.Rules[i].Scope)
	}
	s.Globals = copyOfAll(s.Globals)
	s.Strip = slices.Clone(s.Strip)
	return s
}

func copyOfAll(l []api.Instr) []api.Instr {
	l = slices.Clone(l)
	for i := range l {
		l[i].Attrs = slices.Clone(l[i].Attrs)
		l[i].Kids = copyOfAll(l[i].Kids)
		l[i].Scope = slices.Clone(l[i].Scope)
	}
	return l
}
