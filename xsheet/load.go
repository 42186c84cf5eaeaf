package xsheet

import (
	"slices"
	"strings"

	"stencil/api"
	"stencil/xchar"
	"stencil/xdm"
	"stencil/xnum"
)

// layer is what stands in a stylesheet and those that it includes: all that is of one level.
type layer struct {
	rules   []api.Rule
	globals []api.Instr
	strip   []string
	methods []api.Method // of all outputs that name one
	wides   []bool       // likewise
}

// loader reads a stylesheet, and those that it leads to.
type loader struct {
	reader
	resources []api.Resource
	layers    []*layer // those that count less ahead
	sheets    int      // how many were read
	rules     int
}

func (l *loader) load(name string) (s api.Sheet, e api.Errno) {
	defer func() {
		switch reason := recover().(type) {
		case nil:
		case fault:
			s, e = api.Sheet{}, reason.number
		default:
			panic(reason)
		}
	}()
	l.walk(name)
	for _, x := range l.layers {
		x.demandNamesOnce()
	}
	return l.sheet(), api.OK
}

// walk reads stylesheets, each at the place that leads to it.
func (l *loader) walk(name string) {
	var open []string // those that are being read, each one in the one ahead of it
	var read func(name string, own *layer)
	read = func(name string, own *layer) {
		top := l.find(name)
		if slices.Contains(open, name) {
			giveUp(api.ErrLoop)
		}
		if l.sheets++; l.sheets > api.MaxSheets {
			giveUp(api.ErrLimit)
		}
		open = append(open, name)
		l.readParts(top, l.parts(own, read))
		open = open[:len(open)-1]
	}
	own := &layer{}
	read(name, own)
	l.layers = append(l.layers, own)
}

// find is the element of the stylesheet of a name.
func (l *loader) find(name string) piece {
	place := slices.IndexFunc(l.resources, func(r api.Resource) bool { return r.Name == name })
	if place < 0 {
		giveUp(api.ErrName)
	}
	tree, e := xdm.Parse(l.resources[place].Text)
	if e != api.OK {
		giveUp(e)
	}
	top := slices.Collect(piece{tree, 0}.pieces())[0]
	top.demandStylesheet()
	return top
}

// demandStylesheet gives up an element that is none, by its name or its attributes.
func (p piece) demandStylesheet() {
	says := p.says()
	demand(says == "stylesheet" || says == "transform")
	_, ok := p.attr("version")
	demand(ok)
	for name := range p.attrs() {
		demand(name.Uri != "" || name.Local == "version")
	}
}

// part is how an element of some name at the top of a stylesheet is read.
type part struct {
	read  func(piece)
	first bool // it stands ahead of all that are not
}

// parts are all of them, by their names. What they say is the layer's own, or is followed.
func (l *loader) parts(own *layer, follow func(name string, own *layer)) map[string]part {
	global := func(p piece) { own.globals = append(own.globals, l.instruction(p)...) }
	return map[string]part{
		"import": {first: true, read: func(p piece) {
			other := &layer{}
			follow(p.href(), other)
			l.layers = append(l.layers, other)
		}},
		"include":     {read: func(p piece) { follow(p.href(), own) }},
		"template":    {read: func(p piece) { own.rules = append(own.rules, l.rule(p)) }},
		"variable":    {read: global},
		"param":       {read: global},
		"output":      {read: own.output},
		"strip-space": {read: own.stripSpace},
	}
}

func (l *loader) readParts(top piece, parts map[string]part) {
	begun := false
	for k := range top.pieces() {
		x, ok := parts[k.says()]
		demand(ok && !(x.first && begun))
		begun = begun || !x.first
		x.read(k)
	}
}

// href is the name of the stylesheet that an element leads to.
func (p piece) href() string {
	p.demandAttrs("href", "")
	p.demandEmpty()
	name, _ := p.attr("href")
	return name
}

// rule is what a template says.
func (l *loader) rule(p piece) api.Rule {
	p.demandAttrs("", "match name mode priority")
	match, matches := p.attr("match")
	name, named := p.attr("name")
	mode, moded := p.attr("mode")
	priority, own := p.attr("priority")
	demand(matches || named && !moded && !own)
	demand(!named || isQName(name))
	demand(!moded || isQName(mode))
	x := api.Rule{Match: match, Name: name, Mode: mode, Own: own, Scope: p.scope()}
	if own {
		x.Priority = xnum.Parse(priority)
		demand(x.Priority.Kind == api.Fin)
	}
	if l.rules++; l.rules > api.MaxRules {
		giveUp(api.ErrLimit)
	}
	x.Body = l.instructions(p, isBodyBehindParams)
	return x
}

func (x *layer) output(p piece) {
	p.demandAttrs("", "method encoding")
	p.demandEmpty()
	if s, ok := p.attr("method"); ok {
		x.methods = append(x.methods, methodOf(s))
	}
	if s, ok := p.attr("encoding"); ok {
		wide := strings.EqualFold(s, "utf-16")
		demand(wide || strings.EqualFold(s, "utf-8"))
		x.wides = append(x.wides, wide)
	}
}

func methodOf(s string) api.Method {
	switch s {
	case "html":
		return api.Html
	case "text":
		return api.Plain
	}
	demand(s == "xml")
	return api.Xml
}

func (x *layer) stripSpace(p piece) {
	p.demandAttrs("elements", "")
	p.demandEmpty()
	elements, _ := p.attr("elements")
	names := strings.FieldsFunc(elements, xchar.IsBlank)
	for _, name := range names {
		demand(name == "*" || isQName(name))
	}
	for _, name := range names {
		if prefix, local, _ := xchar.Split(name); prefix != "" {
			name = "{" + p.uri(prefix) + "}" + local
		}
		x.strip = append(x.strip, name)
	}
}
