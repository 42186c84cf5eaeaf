package xsheet_test

import (
	"fmt"
	"math/rand"
	"regexp"
	"slices"
	"strings"
	"testing"

	"stencil/api"
	"stencil/xmlscan"
	"stencil/xsheet"
)

// maker makes instructions by chance, and writes them as they might stand in a stylesheet.
type maker struct {
	*rand.Rand
}

func (m maker) pick(l ...string) string { return l[m.Intn(len(l))] }

func (m maker) qname() string { return m.pick("a", "b", "p:c", "d-e", "é.1", "_") }

func (m maker) any() string {
	return m.pick("", "a", "[", "{", "a < 'b' & \"c\"", "\t", "{$v}", "\n é")
}

// body is some instructions in which nothing else stands; no two texts meet, as they would be one.
func (m maker) body(deep int) []api.Instr {
	var l []api.Instr
	for range m.Intn(4) {
		l = append(l, m.instr(deep))
	}
	return l
}

func (m maker) instr(deep int) api.Instr {
	if deep == 0 {
		return words(m.pick("a", " b ", "{c}", "<&>", " ", "\n"))
	}
	switch do := api.Do(1 + m.Intn(int(api.Sort))); do {
	case api.ValueOf, api.CopyOf:
		return api.Instr{Do: do, Select: m.any()}
	case api.Apply:
		i := api.Instr{Do: do, Select: m.any(), Mode: m.pick("", m.qname())}
		for range m.Intn(3) {
			i.Kids = append(i.Kids, []api.Instr{m.sort(), m.let(api.With, deep-1)}[m.Intn(2)])
		}
		return i
	case api.Imports:
		return api.Instr{Do: do}
	case api.Template:
		i := api.Instr{Do: do, Name: m.qname()}
		for range m.Intn(3) {
			i.Kids = append(i.Kids, m.let(api.With, deep-1))
		}
		return i
	case api.ForEach:
		i := api.Instr{Do: do, Select: m.any()}
		for range m.Intn(3) {
			i.Kids = append(i.Kids, m.sort())
		}
		i.Kids = append(i.Kids, m.body(deep-1)...)
		return i
	case api.If:
		return api.Instr{Do: do, Select: m.any(), Kids: m.body(deep - 1)}
	case api.Choose:
		i := api.Instr{Do: do}
		for range 1 + m.Intn(3) {
			i.Kids = append(i.Kids, api.Instr{Do: api.When, Select: m.any(), Kids: m.body(deep - 1)})
		}
		if m.Intn(2) == 0 {
			i.Kids = append(i.Kids, api.Instr{Do: api.Otherwise, Kids: m.body(deep - 1)})
		}
		return i
	case api.Let:
		return m.let(do, deep-1)
	case api.MakeElement, api.MakeAttr, api.MakePi:
		return api.Instr{Do: do, Name: m.any(), Kids: m.body(deep - 1)}
	case api.Copy, api.MakeComment:
		return api.Instr{Do: do, Kids: m.body(deep - 1)}
	case api.Say:
		return api.Instr{Do: do, Flag: m.Intn(2) == 0, Kids: m.body(deep - 1)}
	case api.Count:
		return api.Instr{Do: do, Select: m.any(), Text: m.pick("1", m.any())}
	case api.Literal:
		i := api.Instr{Do: do, Name: m.qname(), Kids: m.body(deep - 1)}
		for _, name := range []string{"a", "select", "p:b", "xml:space"} {
			if m.Intn(3) == 0 {
				i.Attrs = append(i.Attrs, api.Pair{Name: name, Value: m.any()})
			}
		}
		return i
	}
	return m.instr(0)
}

func (m maker) sort() api.Instr {
	return api.Instr{Do: api.Sort, Select: m.any(), Text: m.pick("text", "number"), Flag: m.Intn(2) == 0}
}

func (m maker) let(do api.Do, deep int) api.Instr {
	i := api.Instr{Do: do, Name: m.qname(), Select: m.any()}
	if i.Select == "" {
		i.Kids = m.body(deep)
	}
	return i
}

// elements are the instructions' names, and of each the names of what has its Name, Select, Mode, Text and Flag.
var elements = map[api.Do][]string{
	api.ValueOf: {"value-of", "", "select"}, api.CopyOf: {"copy-of", "", "select"}, api.Copy: {"copy"}, api.Apply: {"apply-templates", "", "select", "mode"},
	api.Imports: {"apply-imports"}, api.Template: {"call-template", "name"}, api.ForEach: {"for-each", "", "select"}, api.If: {"if", "", "test"},
	api.Choose: {"choose"}, api.When: {"when", "", "test"}, api.Otherwise: {"otherwise"}, api.Let: {"variable", "name", "select"}, api.Given: {"param", "name", "select"}, api.With: {"with-param", "name", "select"},
	api.MakeElement: {"element", "name"}, api.MakeAttr: {"attribute", "name"}, api.MakeComment: {"comment"}, api.MakePi: {"processing-instruction", "name"},
	api.Say: {"message", "", "", "", "", "terminate"}, api.Count: {"number", "", "value", "", "format"}, api.Sort: {"sort", "", "select", "", "data-type", "order"},
}

// gap is something that plays no part.
func (m maker) gap() string {
	return m.pick("", "", "", " ", "\n", "<!--c-->", "<?p q?>", " <!-- --> ")
}

// tight is a gap next to a text, of which blanks would be a part.
func (m maker) tight() string { return m.pick("", "", "<!--c-->", "<?p q?>") }

func (m maker) write(l []api.Instr) string {
	s := ""
	bare := false // a text stands ahead
	for _, i := range l {
		next := i.Do == api.Words && strings.TrimSpace(i.Text) != "" && m.Intn(2) == 0
		gap := m.gap()
		if bare || next {
			gap = m.tight()
		}
		if bare && next {
			gap = "<!--c-->"
		}
		s += gap
		bare = next
		switch {
		case next:
			s += xmlscan.Escape(i.Text)
		case i.Do == api.Words:
			s += "<x:text>" + xmlscan.Escape(i.Text) + "</x:text>"
		default:
			s += m.element(i)
		}
	}
	if bare {
		return s + m.tight()
	}
	return s + m.gap()
}

func (m maker) element(i api.Instr) string {
	var attrs []string
	add := func(name, value string) {
		attrs = append(attrs, name+`="`+xmlscan.Quote(value)+`"`)
	}
	name := i.Name
	if i.Do == api.Literal {
		for _, a := range i.Attrs {
			add(a.Name, a.Value)
		}
	} else {
		words := append(slices.Clone(elements[i.Do]), make([]string, 6)...)
		name = "x:" + words[0]
		values := []string{"", i.Name, i.Select, i.Mode, i.Text, ""}
		switch {
		case i.Do == api.Say:
			values[5] = map[bool]string{true: "yes", false: m.pick("", "no")}[i.Flag]
		case i.Do == api.Sort:
			values[5] = map[bool]string{true: "descending", false: m.pick("", "ascending")}[i.Flag]
		}
		for at, word := range words[:6] {
			// What stands there anyhow is left out, now and then.
			must := at == 1 || at == 2 && strings.Contains("value-of copy-of for-each if when", words[0])
			usual := at == 4 && (i.Do == api.Sort && i.Text == "text" || i.Do == api.Count && i.Text == "1")
			set := must || values[at] != "" || at == 4 && i.Do == api.Count
			if at > 0 && word != "" && set && !(usual && m.Intn(2) == 0) {
				add(word, values[at])
			}
		}
		if m.Intn(8) == 0 {
			add("q:select", "9")
		}
		m.Shuffle(len(attrs), func(a, b int) { attrs[a], attrs[b] = attrs[b], attrs[a] })
	}
	return "<" + strings.Join(append([]string{name}, attrs...), " ") + ">" + m.write(i.Kids) + "</" + name + ">"
}

func TestThereAndBack(t *testing.T) { // P11.3 (E2): instructions that are written are read as they are
	m := maker{rand.New(rand.NewSource(4))}
	scope := []api.Pair{{Name: "p", Value: "u"}, {Name: "q", Value: "v"}, {Name: "x", Value: transformUri}}
	most := 0
	for range 4000 {
		var rule, global []api.Instr
		for range m.Intn(3) {
			rule = append(rule, m.let(api.Given, 2))
		}
		rule = append(rule, m.body(4)...)
		global = append(global, m.let([]api.Do{api.Let, api.Given}[m.Intn(2)], 3))
		s := "<x:stylesheet version='1' xmlns:x='" + transformUri + "' xmlns:p='u' xmlns:q='v'>" + m.gap() + "<x:template match='a'>" + m.write(rule) + "</x:template>" + m.write(global) + "</x:stylesheet>"
		got, e := xsheet.Load("s", named("s", s)...)
		if e != api.OK || len(got.Rules) != 1 || !same(got.Rules[0].Body, scoped(scope, rule...)) || !same(got.Globals, scoped(scope, global...)) {
			t.Fatalf("%s: %+v, %d, want %+v %+v", s, got, e, rule, global)
		}
		size := strings.Count(fmt.Sprintf("%+v", got), "{Do:")
		if xsheet.Size(got) != size {
			t.Fatal(s, xsheet.Size(got), size)
		}
		most = max(most, size)
	}
	if most < 50 {
		t.Error("too few instructions", most)
	}
}

// models say which elements may stand in one, by the chapter's words: names with a space behind each, . of texts and literal elements.
var models = map[string]string{
	"stylesheet": `(import )*((include|template|variable|param|output|strip-space) )*`,
	"import":     ``, "include": ``, "output": ``, "strip-space": ``,
	"template": `(param )*BODY`,
	"value-of": ``, "copy-of": ``, "apply-imports": ``, "sort": ``, "number": ``,
	"apply-templates": `((sort|with-param) )*`, "call-template": `(with-param )*`, "choose": `(when )+(otherwise )?`, "text": `(# )*`,
	"for-each": `(sort )*BODY`, "copy": `BODY`, "if": `BODY`, "when": `BODY`, "otherwise": `BODY`, "variable": `BODY`, "param": `BODY`, "with-param": `BODY`,
	"element": `BODY`, "attribute": `BODY`, "comment": `BODY`, "processing-instruction": `BODY`, "message": `BODY`, ".": `BODY`,
}

const bodyModel = `((value-of|copy-of|copy|apply-templates|apply-imports|call-template|for-each|if|choose|variable|text|element|attribute|comment|processing-instruction|message|number|\.|#) )*`

// attributes are those that each element must have, and behind a / those that it may.
var attributes = map[string]string{
	"stylesheet": "version /", "import": "href /", "include": "href /", "output": "/ method encoding", "strip-space": "elements /", "template": "/ name match mode priority",
	"value-of": "select /", "copy-of": "select /", "copy": "/", "apply-templates": "/ select mode", "apply-imports": "/", "call-template": "name /", "for-each": "select /", "if": "test /", "choose": "/", "when": "test /", "otherwise": "/",
	"variable": "name / select", "param": "name / select", "with-param": "name / select", "text": "/", "element": "name /", "attribute": "name /", "comment": "/", "processing-instruction": "name /", "message": "/ terminate", "number": "/ value format", "sort": "/ select order data-type",
}

// values are some that each attribute may have.
var values = [][2]string{{"version", "1"}, {"href", "i"}, {"method", "html"}, {"encoding", "utf-16"}, {"elements", "a *"}, {"name", "n"}, {"match", "a"}, {"mode", "m"}, {"priority", "1"}, {"select", "a"}, {"test", "a"}, {"terminate", "yes"}, {"value", "1"}, {"format", "1"}, {"order", "descending"}, {"data-type", "number"}}

// guesser makes stylesheets by chance, and what is nearly one.
type guesser struct {
	maker
	models map[string]*regexp.Regexp
}

// guess writes an element with things in it that may stand there or not, and tells whether all may.
func (m guesser) guess(name string, deep int, serial *int) (string, bool) {
	right := true
	s := "<x:" + name
	if name == "." {
		s = "<o"
	}
	must, may, _ := strings.Cut(attributes[name], "/")
	given := map[string]int{}
	for _, pair := range values {
		attr, value := pair[0], pair[1]
		must, may := slices.Contains(strings.Fields(must), attr), slices.Contains(strings.Fields(may), attr)
		has := must && m.Intn(100) > 0 || may && m.Intn(3) == 0 || name != "." && m.Intn(1000) == 0
		right = right && (!must || has) && (!has || must || may)
		if !has {
			continue
		}
		given[attr] = 1
		if attr == "name" {
			*serial++
			value = fmt.Sprint("n", *serial)
		}
		s += " " + attr + "='" + value + "'"
	}
	if name == "template" && given["match"] == 0 {
		if m.Intn(20) > 0 {
			s += " match='a'"
		} else {
			right = right && given["name"] == 1 && given["mode"]+given["priority"] == 0
		}
	}
	s += ">"
	shape := ""
	for range m.Intn(4) {
		kid := m.likely(name)
		if m.Intn(60) == 0 {
			kid = m.pick("sort", "when", "otherwise", "param", "with-param", "template", "import", "output", "include", "#", ".", "text", "value-of", "if", "stylesheet")
		}
		if deep == 0 && kid != "#" || kid == "" {
			continue
		}
		if kid == "#" {
			// Two texts that meet are one.
			if !strings.HasSuffix(shape, "# ") {
				s += "t"
			}
		} else {
			inner, ok := m.guess(kid, deep-1, serial)
			s += inner
			right = right && ok
		}
		shape += kid + " "
	}
	if name == "choose" && shape == "" {
		s += "<x:when test='a'/>"
		shape = "when "
	}
	right = right && m.models[name].MatchString(shape)
	if given["select"] > 0 && shape != "" && strings.Contains("variable param with-param", name) {
		right = false
	}
	return s + map[bool]string{true: "</o>", false: "</x:" + name + ">"}[name == "."], right
}

// likely is something that may stand in an element.
func (m guesser) likely(name string) string {
	switch name {
	case "stylesheet":
		return m.pick("template", "template", "variable", "param", "output", "strip-space")
	case "text":
		return "#"
	case "choose":
		return m.pick("when", "when", "when", "otherwise")
	case "call-template":
		return "with-param"
	case "apply-templates":
		return m.pick("sort", "with-param")
	case "import", "include", "output", "strip-space", "value-of", "copy-of", "apply-imports", "sort", "number":
		return ""
	case "for-each":
		if m.Intn(3) == 0 {
			return "sort"
		}
	case "template":
		if m.Intn(3) == 0 {
			return "param"
		}
	}
	return m.pick("value-of", "copy-of", "copy", "apply-templates", "apply-imports", "call-template", "for-each", "if", "choose", "variable", "text", "element", "attribute", "comment", "processing-instruction", "message", "number", ".", "#")
}

func TestGuesses(t *testing.T) { // P11.1, E6: stylesheets and what is nearly one, against the chapter's words as tables
	m := guesser{maker{rand.New(rand.NewSource(5))}, map[string]*regexp.Regexp{}}
	for name, model := range models {
		m.models[name] = regexp.MustCompile("^(" + strings.ReplaceAll(model, "BODY", bodyModel) + ")$")
	}
	seen := map[bool]int{}
	for range 20000 {
		serial := 0
		s, right := m.guess("stylesheet", 5, &serial)
		s = strings.Replace(s, "<x:stylesheet", "<x:stylesheet xmlns:x='"+transformUri+"'", 1)
		_, e := xsheet.Load("s", named("s", s, "i", sheetOf(""))...)
		if want := map[bool]api.Errno{true: api.OK, false: api.ErrSheet}[right]; e != want {
			t.Fatalf("%s: %d, want %d", s, e, want)
		}
		seen[right]++
	}
	if seen[true] < 2000 || seen[false] < 2000 {
		t.Error("too few of a kind", seen)
	}
}

func TestOddStylesheets(t *testing.T) { // P1: stylesheets with bytes changed, left out, put in
	m := maker{rand.New(rand.NewSource(6))}
	text := sheetOf("<x:import href='i'/><x:output method='text'/><x:variable name='v' select='1'/><x:strip-space elements='a x:b *'/><x:template match='a' priority='1'><x:for-each select='a'><x:sort/>t<o a='{b}'/></x:for-each></x:template><x:include href='j'/>")
	for range 20000 {
		b := []byte(text)
		for range 1 + m.Intn(3) {
			at := m.Intn(len(b))
			switch m.Intn(3) {
			case 0:
				b[at] = "<>/'=x: a&\x00\xff{}"[m.Intn(14)]
			case 1:
				b = slices.Delete(b, at, min(at+1+m.Intn(9), len(b)))
			default:
				b = slices.Insert(b, at, []byte(m.pick("<x:a/>", "<a/>", "t", "<", "<x:sort/>", " a='b'", "'", "<!--c-->", "\xff", "<x:text/>"))...)
			}
		}
		s, e := xsheet.Load("s", named("s", string(b), "i", sheetOf(rule("i")), "j", sheetOf(rule("j")))...)
		if e != api.OK && (len(s.Rules) > 0 || len(s.Globals) > 0 || len(s.Strip) > 0 || s.Method != 0) {
			t.Fatalf("%s: %+v, %d", b, s, e)
		}
		if e < api.OK || e > api.ErrMark {
			t.Fatal(e)
		}
	}
}
