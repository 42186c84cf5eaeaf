package xcode

import (
	"iter"

	"stencil/api"
	"stencil/xsheet"
)

// within yields instructions and all that lie in them, each ahead of its Kids, with how deep it lies.
func within(l []api.Instr, deep int) iter.Seq2[int, *api.Instr] {
	return func(yield func(int, *api.Instr) bool) {
		for i := range l {
			if !yield(deep, &l[i]) {
				return
			}
			for far, k := range within(l[i].Kids, deep+1) {
				if !yield(far, k) {
					return
				}
			}
		}
	}
}

// everywhere yields all instructions of a sheet.
func everywhere(s api.Sheet) iter.Seq2[int, *api.Instr] {
	return func(yield func(int, *api.Instr) bool) {
		for l := range bodies(s) {
			for deep, i := range within(l, 1) {
				if !yield(deep, i) {
					return
				}
			}
		}
	}
}

// bodies yields the rules', and then the globals.
func bodies(s api.Sheet) iter.Seq[[]api.Instr] {
	return func(yield func([]api.Instr) bool) {
		for _, rule := range s.Rules {
			if !yield(rule.Body) {
				return
			}
		}
		yield(s.Globals)
	}
}

// isPastLimits looks no further than to the first instruction that is too deep, or one too many.
func isPastLimits(s api.Sheet) bool {
	if len(s.Rules) > api.MaxRules {
		return true
	}
	seen := 0
	for deep := range everywhere(s) {
		seen++
		if deep > api.MaxDeep || seen > api.MaxNodes {
			return true
		}
	}
	return false
}

// templates yields those of an instruction's texts that are texts' templates.
func templates(i *api.Instr) iter.Seq[string] {
	return func(yield func(string) bool) {
		switch i.Do {
		case api.MakeElement, api.MakeAttr, api.MakePi:
			yield(i.Name)
		case api.Literal:
			for _, a := range i.Attrs {
				if !yield(a.Value) {
					return
				}
			}
		case api.Count:
			yield(i.Text)
		}
	}
}

// expressions yields those of an instruction, in the order in which they are compiled; in place of a template's that is none its error.
func expressions(i *api.Instr) iter.Seq2[string, api.Errno] {
	return func(yield func(string, api.Errno) bool) {
		for template := range templates(i) {
			parts, fault := xsheet.Text(template)
			if fault != api.OK && !yield("", fault) {
				return
			}
			for place, part := range parts {
				if place%2 == 1 && !yield(part, api.OK) {
					return
				}
			}
		}
		if i.Select != "" {
			yield(i.Select, api.OK)
		}
	}
}
