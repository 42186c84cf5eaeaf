package xsheet

import "stencil/api"

// demandNamesOnce gives up a layer with two globals, or two templates, of one name.
func (x *layer) demandNamesOnce() {
	globals, templates := map[string]int{}, map[string]int{}
	for _, i := range x.globals {
		globals[i.Name]++
	}
	named := 0
	for _, rule := range x.rules {
		if rule.Name != "" {
			templates[rule.Name]++
			named++
		}
	}
	if len(globals) < len(x.globals) || len(templates) < named {
		giveUp(api.ErrKnown)
	}
}

// sheet is all layers, those that count less ahead.
func (l *loader) sheet() api.Sheet {
	var s api.Sheet
	for place, x := range l.layers {
		for _, rule := range x.rules {
			rule.Level = len(l.layers) - 1 - place
			s.Rules = append(s.Rules, rule)
		}
		s.Globals = append(s.Globals, x.globals...)
		s.Strip = append(s.Strip, x.strip...)
		s.Method = lastOf(x.methods, s.Method)
		s.Wide = lastOf(x.wides, s.Wide)
	}
	s.Globals = lastOfEachName(s.Globals)
	return s
}

// lastOf is the last one of a list, or another one without.
func lastOf[T any](l []T, other T) T {
	if len(l) == 0 {
		return other
	}
	return l[len(l)-1]
}

func lastOfEachName(l []api.Instr) []api.Instr {
	last := map[string]int{}
	for place, i := range l {
		last[i.Name] = place
	}
	var left []api.Instr
	for place, i := range l {
		if last[i.Name] == place {
			left = append(left, i)
		}
	}
	return left
}
