package xrun

import (
	"cmp"
	"strings"

	"stencil/api"
	"stencil/xsheet"
)

// body makes instructions ready: what is the same each time that they are done is looked up once.
func (r *run) body(l []api.Instr) body {
	var b body
	for _, i := range l {
		b = append(b, r.instruction(i))
	}
	return b
}

func (r *run) instruction(i api.Instr) instruction {
	switch i.Do {
	case api.Literal:
		return literal{i.Name, i.Scope, r.literalAttrs(i), r.body(i.Kids)}
	case api.Words:
		return words{i.Text}
	case api.ValueOf:
		return valueOf{r.selected(i)}
	case api.CopyOf:
		return copyOf{r.selected(i)}
	case api.Copy:
		return shallowCopy{r.body(i.Kids)}
	case api.Apply:
		i.Select = cmp.Or(i.Select, "node()")
		return apply{r.selection(i), i.Mode, r.withs(i.Kids)}
	case api.Imports:
		return imports{}
	case api.Template:
		place, _ := r.program.Named(i.Name)
		return call{place, r.withs(i.Kids)}
	case api.ForEach:
		return forEach{r.selection(i), r.body(i.Kids)}
	case api.If:
		return branches{r.branch(i)}
	case api.Choose:
		return r.branches(i.Kids)
	case api.Let:
		return let{r.variable(i)}
	case api.Given:
		return given{r.variable(i)}
	case api.MakeElement:
		return makeElement{r.making(i)}
	case api.MakeAttr:
		return makeAttr{r.making(i)}
	case api.MakeComment:
		return makeComment{r.body(i.Kids)}
	case api.MakePi:
		return makePi{r.pieces(i.Name, i.Scope), r.body(i.Kids)}
	case api.Say:
		return say{r.body(i.Kids), i.Flag}
	case api.Count:
		return r.count(i)
	}
	return idle{}
}

// selected is an instruction's Select. An empty one is no expression, and is told to be none where it is asked for.
func (r *run) selected(i api.Instr) expression { return r.expression(i.Select, i.Scope) }

func (r *run) expression(s string, where scope) expression {
	code, wrong := r.program.Code(s, where)
	return expression{code, wrong}
}

func (r *run) pieces(s string, where scope) pieces {
	// Its error, if it had one, was the program's when it was compiled.
	parts, _ := xsheet.Text(s)
	var p pieces
	for place, part := range parts {
		if place%2 == 0 {
			p.texts = append(p.texts, part)
		} else {
			p.expressions = append(p.expressions, r.expression(part, where))
		}
	}
	return p
}

func (r *run) making(i api.Instr) making {
	return making{r.pieces(i.Name, i.Scope), i.Scope, r.body(i.Kids)}
}

func (r *run) literalAttrs(i api.Instr) []literalAttr {
	var l []literalAttr
	for _, a := range i.Attrs {
		if a.Name != "xmlns" && !strings.HasPrefix(a.Name, "xmlns:") {
			l = append(l, literalAttr{a.Name, r.pieces(a.Value, i.Scope)})
		}
	}
	return l
}

func (r *run) selection(i api.Instr) selection {
	x := selection{expression: r.selected(i)}
	for _, k := range i.Kids {
		if k.Do == api.Sort {
			k.Select = cmp.Or(k.Select, ".")
			x.keys = append(x.keys, sortKey{r.selected(k), k.Text == "number", k.Flag})
		}
	}
	return x
}

func (r *run) withs(l []api.Instr) withs {
	var w withs
	for _, k := range l {
		if k.Do == api.With {
			w = append(w, r.variable(k))
		}
	}
	return w
}

func (r *run) branches(l []api.Instr) branches {
	var b branches
	for _, k := range l {
		if k.Do == api.When || k.Do == api.Otherwise {
			b = append(b, r.branch(k))
		}
	}
	return b
}

func (r *run) branch(i api.Instr) branch {
	return branch{r.selected(i), i.Do == api.Otherwise, r.body(i.Kids)}
}

func (r *run) variable(i api.Instr) variable { return variable{i.Name, r.source(i)} }

func (r *run) source(i api.Instr) source {
	if i.Select != "" {
		return r.selected(i)
	}
	return r.body(i.Kids)
}

func (r *run) count(i api.Instr) instruction {
	how := format{r.pieces(i.Text, i.Scope)}
	if i.Select == "" {
		return countPlace{how}
	}
	return countValue{r.selected(i), how}
}
