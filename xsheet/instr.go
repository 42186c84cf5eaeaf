package xsheet

import (
	"strings"

	"stencil/api"
)

// form is what an instruction of some name looks like.
type form struct {
	do     api.Do
	must   string                  // attributes that must be there, with blanks between
	may    string                  // those that may
	either bool                    // it has no select, or nothing in it
	fits   func(shape string) bool // whether what is of that shape may stand in it
}

// forms are all of them, by their names.
func forms() map[string]form {
	return map[string]form{
		"value-of":               {do: api.ValueOf, must: "select", fits: isNothing},
		"copy-of":                {do: api.CopyOf, must: "select", fits: isNothing},
		"copy":                   {do: api.Copy, fits: isBody},
		"apply-templates":        {do: api.Apply, may: "select mode", fits: areSortsAndWiths},
		"apply-imports":          {do: api.Imports, fits: isNothing},
		"call-template":          {do: api.Template, must: "name", fits: areWiths},
		"for-each":               {do: api.ForEach, must: "select", fits: isBodyBehindSorts},
		"if":                     {do: api.If, must: "test", fits: isBody},
		"choose":                 {do: api.Choose, fits: areCases},
		"when":                   {do: api.When, must: "test", fits: isBody},
		"otherwise":              {do: api.Otherwise, fits: isBody},
		"variable":               {do: api.Let, must: "name", may: "select", either: true, fits: isBody},
		"param":                  {do: api.Given, must: "name", may: "select", either: true, fits: isBody},
		"with-param":             {do: api.With, must: "name", may: "select", either: true, fits: isBody},
		"text":                   {do: api.Words},
		"element":                {do: api.MakeElement, must: "name", fits: isBody},
		"attribute":              {do: api.MakeAttr, must: "name", fits: isBody},
		"comment":                {do: api.MakeComment, fits: isBody},
		"processing-instruction": {do: api.MakePi, must: "name", fits: isBody},
		"message":                {do: api.Say, may: "terminate", fits: isBody},
		"number":                 {do: api.Count, may: "value format", fits: isNothing},
		"sort":                   {do: api.Sort, may: "select order data-type", fits: isNothing},
	}
}

// A shape has a sign for each piece: what may stand where is asked of these.
const (
	sortSign      = "s"
	withSign      = "h" // it hands in
	paramSign     = "p"
	whenSign      = "w"
	otherwiseSign = "o"
	otherSign     = "i" // any other instruction
)

func signOf(do api.Do) string {
	switch do {
	case api.Sort:
		return sortSign
	case api.With:
		return withSign
	case api.Given:
		return paramSign
	case api.When:
		return whenSign
	case api.Otherwise:
		return otherwiseSign
	}
	return otherSign
}

func isOf(shape, signs string) bool { return strings.Trim(shape, signs) == "" }

func isNothing(shape string) bool { return shape == "" }

func isBody(shape string) bool { return isOf(shape, otherSign) }

func isBodyBehindSorts(shape string) bool { return isBody(strings.TrimLeft(shape, sortSign)) }

func isBodyBehindParams(shape string) bool { return isBody(strings.TrimLeft(shape, paramSign)) }

func areWiths(shape string) bool { return isOf(shape, withSign) }

func areSortsAndWiths(shape string) bool { return isOf(shape, sortSign+withSign) }

func areCases(shape string) bool {
	rest := strings.TrimLeft(shape, whenSign)
	return rest != shape && (rest == "" || rest == otherwiseSign)
}

// reader reads instructions.
type reader struct {
	forms map[string]form
}

// instructions are those that stand in an element.
func (r reader) instructions(p piece, fits func(shape string) bool) []api.Instr {
	demand(fits(r.shape(p)))
	var l []api.Instr
	for k := range p.pieces() {
		l = append(l, r.instruction(k)...)
	}
	return l
}

func (r reader) shape(p piece) string {
	var signs strings.Builder
	for k := range p.pieces() {
		signs.WriteString(signOf(r.forms[k.says()].do))
	}
	return signs.String()
}

// instruction is the one that a piece is; none of the element text without a text.
func (r reader) instruction(p piece) []api.Instr {
	switch {
	case p.isText():
		around := piece{p.tree, p.tree.Parent(p.node)}
		return []api.Instr{{Do: api.Words, Text: p.tree.Text(p.node), Scope: around.scope()}}
	case p.tree.Name(p.node).Uri != transformUri:
		return []api.Instr{r.literal(p)}
	}
	f, ok := r.forms[p.says()]
	demand(ok)
	p.demandAttrs(f.must, f.may)
	if f.do == api.Words {
		return words(p)
	}
	if _, selects := p.attr("select"); selects && f.either {
		p.demandEmpty()
	}
	i := formed(p, f.do)
	i.Kids = r.instructions(p, f.fits)
	return []api.Instr{i}
}

// literal is an element that stands for itself.
func (r reader) literal(p piece) api.Instr {
	i := api.Instr{Do: api.Literal, Name: qname(p.tree.Name(p.node)), Scope: p.scope()}
	for name, text := range p.attrs() {
		if name.Uri != transformUri {
			i.Attrs = append(i.Attrs, api.Pair{Name: qname(name), Value: text})
		}
	}
	i.Kids = r.instructions(p, isBody)
	return i
}

// words are the text of the element text, blanks too.
func words(p piece) []api.Instr {
	for k := range p.pieces() {
		demand(k.isText())
	}
	s := p.tree.String(p.node)
	if s == "" {
		return nil
	}
	return []api.Instr{{Do: api.Words, Text: s, Scope: p.scope()}}
}

// formed is an instruction with what its attributes say.
func formed(p piece, do api.Do) api.Instr {
	i := api.Instr{Do: do, Scope: p.scope()}
	switch do {
	case api.Count:
		i.Text = "1"
	case api.Sort:
		i.Text = "text"
	}
	for name, text := range p.attrs() {
		if name.Uri == "" {
			demand(take(&i, name.Local, text))
		}
	}
	return i
}

// take puts an attribute's text where an instruction has it; false, if that attribute can't have it.
func take(i *api.Instr, name, text string) bool {
	switch name {
	case "name":
		i.Name = text
		return isTemplate(i.Do) || isQName(text)
	case "select", "test", "value":
		i.Select = text
	case "mode":
		i.Mode = text
		return isQName(text)
	case "format":
		i.Text = text
	case "data-type":
		i.Text = text
		return text == "text" || text == "number"
	case "order":
		i.Flag = text == "descending"
		return i.Flag || text == "ascending"
	case "terminate":
		i.Flag = text == "yes"
		return i.Flag || text == "no"
	}
	return true
}

// isTemplate tells whether an instruction's name is a text's template, which is not looked at till it is compiled.
func isTemplate(do api.Do) bool {
	return do == api.MakeElement || do == api.MakeAttr || do == api.MakePi
}
