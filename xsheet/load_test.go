package xsheet_test

import (
	"reflect"
	"strings"
	"testing"

	"stencil/api"
	"stencil/xsheet"
)

const (
	transformUri = "http://www.w3.org/1999/XSL/Transform"
	xmlUri       = "http://www.w3.org/XML/1998/namespace"
	head         = "<x:stylesheet version='1.0' xmlns:x='" + transformUri + "'>"
	foot         = "</x:stylesheet>"
)

func sheetOf(parts string) string { return head + parts + foot }

func templateOf(body string) string { return "<x:template match='a'>" + body + "</x:template>" }

// named are resources: a name, a text, and so on.
func named(l ...string) []api.Resource {
	var all []api.Resource
	for i := 0; i+1 < len(l); i += 2 {
		all = append(all, api.Resource{Name: l[i], Text: l[i+1]})
	}
	return all
}

func load(t testing.TB, parts string) api.Sheet {
	t.Helper()
	s, e := xsheet.Load("s", api.Resource{Name: "s", Text: sheetOf(parts)})
	if e != api.OK {
		t.Fatalf("%s: %d", parts, e)
	}
	return s
}

// scoped are instructions that all have one scope.
func scoped(scope []api.Pair, l ...api.Instr) []api.Instr {
	for i := range l {
		l[i].Scope = scope
		scoped(scope, l[i].Kids...)
	}
	return l
}

func plain() []api.Pair { return []api.Pair{{Name: "x", Value: transformUri}} }

// same tells whether two lists of instructions are, where nil is as empty as empty.
func same(a, b []api.Instr) bool {
	if len(a) != len(b) {
		return false
	}
	for i := range a {
		x, y := a[i], b[i]
		if !same(x.Kids, y.Kids) || !samePairs(x.Attrs, y.Attrs) || !samePairs(x.Scope, y.Scope) {
			return false
		}
		x.Kids, x.Attrs, x.Scope, y.Kids, y.Attrs, y.Scope = nil, nil, nil, nil, nil, nil
		if !reflect.DeepEqual(x, y) {
			return false
		}
	}
	return true
}

func samePairs(a, b []api.Pair) bool {
	return len(a) == 0 && len(b) == 0 || reflect.DeepEqual(a, b)
}

func words(s string) api.Instr { return api.Instr{Do: api.Words, Text: s} }

func in(i api.Instr, kids ...api.Instr) api.Instr {
	i.Kids = kids
	return i
}

func TestInstructions(t *testing.T) { // P11.3: each instruction, with each of its attributes
	when := in(api.Instr{Do: api.When, Select: "w"}, words("a"))
	for body, want := range map[string]api.Instr{
		"<x:value-of select='a &lt; b'/>": {Do: api.ValueOf, Select: "a < b"},
		"<x:value-of select=''/>":         {Do: api.ValueOf},
		"<x:copy-of select='a'/>":         {Do: api.CopyOf, Select: "a"},
		"<x:copy/>":                       {Do: api.Copy},
		"<x:copy>t</x:copy>":              in(api.Instr{Do: api.Copy}, words("t")),
		"<x:apply-templates/>":            {Do: api.Apply},
		"<x:apply-templates mode='p:m' select='b'> <x:sort/><x:with-param name='n'/><x:sort select='c'/></x:apply-templates>": in(api.Instr{Do: api.Apply, Mode: "p:m", Select: "b"},
			api.Instr{Do: api.Sort, Text: "text"}, api.Instr{Do: api.With, Name: "n"}, api.Instr{Do: api.Sort, Select: "c", Text: "text"}),
		"<x:apply-templates select='b'/>":      {Do: api.Apply, Select: "b"},
		"<x:apply-templates mode='m'/>":        {Do: api.Apply, Mode: "m"},
		"<x:apply-imports/>":                   {Do: api.Imports},
		"<x:apply-imports> </x:apply-imports>": {Do: api.Imports},
		"<x:call-template name='n'/>":          {Do: api.Template, Name: "n"},
		"<x:call-template name='u:n'><x:with-param name='a' select='1'/> <x:with-param name='a'>t</x:with-param></x:call-template>": in(api.Instr{Do: api.Template, Name: "u:n"},
			api.Instr{Do: api.With, Name: "a", Select: "1"}, in(api.Instr{Do: api.With, Name: "a"}, words("t"))),
		"<x:for-each select='a'/>": {Do: api.ForEach, Select: "a"},
		"<x:for-each select='a'> <x:sort/><!--c--><x:sort order='descending'/> t<b/> </x:for-each>": in(api.Instr{Do: api.ForEach, Select: "a"},
			api.Instr{Do: api.Sort, Text: "text"}, api.Instr{Do: api.Sort, Text: "text", Flag: true}, words(" t"), api.Instr{Do: api.Literal, Name: "b"}),
		"<x:if test='a'/>":                                 {Do: api.If, Select: "a"},
		"<x:if test='a'>t</x:if>":                          in(api.Instr{Do: api.If, Select: "a"}, words("t")),
		"<x:choose><x:when test='w'>a</x:when></x:choose>": in(api.Instr{Do: api.Choose}, when),
		"<x:choose> <x:when test='w'>a</x:when> <x:when test=''/> </x:choose>":         in(api.Instr{Do: api.Choose}, when, api.Instr{Do: api.When}),
		"<x:choose><x:when test='w'>a</x:when><x:otherwise/></x:choose>":               in(api.Instr{Do: api.Choose}, when, api.Instr{Do: api.Otherwise}),
		"<x:choose><x:when test='w'>a</x:when><x:otherwise>b</x:otherwise></x:choose>": in(api.Instr{Do: api.Choose}, when, in(api.Instr{Do: api.Otherwise}, words("b"))),
		"<x:variable name='v'/>":                                      {Do: api.Let, Name: "v"},
		"<x:variable name='v' select='1'/>":                           {Do: api.Let, Name: "v", Select: "1"},
		"<x:variable name='v' select='1'> <!--c--><?p?></x:variable>": {Do: api.Let, Name: "v", Select: "1"},
		"<x:variable select='' name='v'/>":                            {Do: api.Let, Name: "v"},
		"<x:variable name='v'>t</x:variable>":                         in(api.Instr{Do: api.Let, Name: "v"}, words("t")),
		"<x:param name='v' select='1'/>":                              {Do: api.Given, Name: "v", Select: "1"},
		"<x:param name='v'>t</x:param>":                               in(api.Instr{Do: api.Given, Name: "v"}, words("t")),
		"t":                                                           words("t"),
		" t &amp; u\n":                                                words(" t & u\n"),
		"<![CDATA[ <t> ]]>":                                           words(" <t> "),
		"\u00a0":                                                      words("\u00a0"),
		"<x:text>t</x:text>":                                          words("t"),
		"<x:text> </x:text>":                                          words(" "),
		"<x:text>\n\t&#13;</x:text>":                                  words("\n\t\r"),
		"<x:text> <!--c--><?p?></x:text>":                             words(" "),
		"<x:element name='{a}'/>":                                     {Do: api.MakeElement, Name: "{a}"},
		"<x:element name=''>t</x:element>":                            in(api.Instr{Do: api.MakeElement}, words("t")),
		"<x:element name='1 {'>t</x:element>":                         in(api.Instr{Do: api.MakeElement, Name: "1 {"}, words("t")),
		"<x:attribute name='a{b}'>t</x:attribute>":                    in(api.Instr{Do: api.MakeAttr, Name: "a{b}"}, words("t")),
		"<x:comment/>":                                                {Do: api.MakeComment},
		"<x:comment>t</x:comment>":                                    in(api.Instr{Do: api.MakeComment}, words("t")),
		"<x:processing-instruction name='p'>t</x:processing-instruction>": in(api.Instr{Do: api.MakePi, Name: "p"}, words("t")),
		"<x:message/>":                             {Do: api.Say},
		"<x:message terminate='no'/>":              {Do: api.Say},
		"<x:message terminate='yes'>t</x:message>": in(api.Instr{Do: api.Say, Flag: true}, words("t")),
		"<x:number/>":                              {Do: api.Count, Text: "1"},
		"<x:number value='2' format='{f}'/>":       {Do: api.Count, Select: "2", Text: "{f}"},
		"<x:number format=''/>":                    {Do: api.Count},
		"<x:number value='a'/>":                    {Do: api.Count, Select: "a", Text: "1"},
		"<o/>":                                     {Do: api.Literal, Name: "o"},
		"<o> </o>":                                 {Do: api.Literal, Name: "o"},
		"<o b='1' a='{' c=''>t<o/></o>":            in(api.Instr{Do: api.Literal, Name: "o", Attrs: []api.Pair{{Name: "b", Value: "1"}, {Name: "a", Value: "{"}, {Name: "c"}}}, words("t"), api.Instr{Do: api.Literal, Name: "o"}),
		"<value-of select='1'/>":                   {Do: api.Literal, Name: "value-of", Attrs: []api.Pair{{Name: "select", Value: "1"}}},
		"<o x:version='1' a='b' x:use-attribute-sets='' xml:space='preserve'> </o>": {Do: api.Literal, Name: "o", Attrs: []api.Pair{{Name: "a", Value: "b"}, {Name: "xml:space", Value: "preserve"}}},
		"<xml:o/>": {Do: api.Literal, Name: "xml:o"},
	} {
		got := load(t, templateOf(body)).Rules[0].Body
		if want := scoped(plain(), want); !same(got, want) {
			t.Errorf("%s: %+v, want %+v", body, got, want)
		}
	}
}

func TestSorts(t *testing.T) { // P11.3: sort alone
	for attrs, want := range map[string]api.Instr{
		"":                   {Text: "text"},
		"select='a'":         {Text: "text", Select: "a"},
		"order='ascending'":  {Text: "text"},
		"order='descending'": {Text: "text", Flag: true},
		"data-type='text'":   {Text: "text"},
		"data-type='number'": {Text: "number"},
		"data-type='number' order='descending' select='.'": {Text: "number", Flag: true, Select: "."},
	} {
		want.Do = api.Sort
		for _, around := range []string{"for-each select='b'", "apply-templates"} {
			name, _, _ := strings.Cut(around, " ")
			got := load(t, templateOf("<x:"+around+"><x:sort "+attrs+"/></x:"+name+">")).Rules[0].Body[0].Kids
			if !same(got, scoped(plain(), want)) {
				t.Errorf("%s: %+v, want %+v", attrs, got, want)
			}
		}
	}
}

func TestTexts(t *testing.T) { // P11.3: of several texts, and of blanks
	for body, want := range map[string][]api.Instr{
		"":                                nil,
		" \t\r\n&#13;&#9; ":               nil,
		"<!--c--><?p q?>":                 nil,
		"<x:text/>":                       nil,
		"<x:text><!--c--></x:text>":       nil,
		" <x:text> </x:text> ":            {words(" ")},
		"a<x:text/>b":                     {words("a"), words("b")},
		"a<x:text>b</x:text> c":           {words("a"), words("b"), words(" c")},
		"a <o/> b":                        {words("a "), {Do: api.Literal, Name: "o"}, words(" b")},
		" <o/> <o/> ":                     {{Do: api.Literal, Name: "o"}, {Do: api.Literal, Name: "o"}},
		"<![CDATA[]]> <![CDATA[ ]]>":      nil,
		"<x:text><![CDATA[ ]]>a</x:text>": {words(" a")},
		"<x:if test='a'> <x:text> </x:text> </x:if>":   {in(api.Instr{Do: api.If, Select: "a"}, words(" "))},
		"<x:text xml:space='default'> </x:text>":       {words(" ")},
		"<x:if test='a' xml:space='preserve'> </x:if>": {{Do: api.If, Select: "a"}},
	} {
		got := load(t, templateOf(body)).Rules[0].Body
		if want := scoped(plain(), want...); !same(got, want) {
			t.Errorf("%s: %+v, want %+v", body, got, want)
		}
	}
}

func TestAttributesOfOtherUris(t *testing.T) { // they play no part
	s := load(t, "<x:output xmlns:p='u' p:method='x'/><x:variable name='v' xml:lang='en' p:select='1' xmlns:p='u'>t</x:variable>"+
		"<x:template match='a' p:mode='1' xmlns:p='u'><x:value-of select='1' p:select='2' xml:space='preserve'/><p:o p:a='1' x:b='2'/></x:template>")
	scope := []api.Pair{{Name: "p", Value: "u"}, {Name: "x", Value: transformUri}}
	want := scoped(scope, api.Instr{Do: api.ValueOf, Select: "1"}, api.Instr{Do: api.Literal, Name: "p:o", Attrs: []api.Pair{{Name: "p:a", Value: "1"}}})
	if !same(s.Rules[0].Body, want) || s.Rules[0].Mode != "" || s.Globals[0].Select != "" {
		t.Errorf("%+v", s)
	}
	other := strings.Replace(sheetOf(""), " version", " xmlns:p='u' p:q='' xml:lang='' x:version='' version", 1)
	if _, e := xsheet.Load("s", named("s", other)...); e != api.OK {
		t.Error(e)
	}
}

func TestScopes(t *testing.T) { // P11.2, P11.3: of the template, of each element
	s := load(t, "<x:template match='p:a' xmlns:p='u'>t<o xmlns='d' xmlns:q='v'><x:if test='q:a' xmlns:p='w'>u<x:text xmlns:r='y'>v</x:text></x:if></o></x:template><x:variable name='v' xmlns:g='z'/>")
	x := api.Pair{Name: "x", Value: transformUri}
	outer := []api.Pair{{Name: "p", Value: "u"}, x}
	o := []api.Pair{{Value: "d"}, {Name: "p", Value: "u"}, {Name: "q", Value: "v"}, x}
	inner := []api.Pair{{Value: "d"}, {Name: "p", Value: "w"}, {Name: "q", Value: "v"}, x}
	text := []api.Pair{{Value: "d"}, {Name: "p", Value: "w"}, {Name: "q", Value: "v"}, {Name: "r", Value: "y"}, x}
	want := []api.Instr{
		{Do: api.Words, Text: "t", Scope: outer},
		{Do: api.Literal, Name: "o", Scope: o, Kids: []api.Instr{
			{Do: api.If, Select: "q:a", Scope: inner, Kids: []api.Instr{{Do: api.Words, Text: "u", Scope: inner}, {Do: api.Words, Text: "v", Scope: text}}},
		}},
	}
	if rule := s.Rules[0]; !reflect.DeepEqual(rule.Scope, outer) || !same(rule.Body, want) {
		t.Errorf("%+v", s)
	}
	if g := s.Globals[0]; !reflect.DeepEqual(g.Scope, []api.Pair{{Name: "g", Value: "z"}, x}) {
		t.Errorf("%+v", g)
	}
}

func TestRules(t *testing.T) { // P11.2: what a template says
	for attrs, want := range map[string]api.Rule{
		"match='a|b'":                               {Match: "a|b"},
		"match=' [ '":                               {Match: " [ "},
		"match=''":                                  {},
		"name='n'":                                  {Name: "n"},
		"name='p:n'":                                {Name: "p:n"},
		"match='a' name='n'":                        {Match: "a", Name: "n"},
		"match='a' mode='m'":                        {Match: "a", Mode: "m"},
		"match='a' mode='q:m' name='n'":             {Match: "a", Mode: "q:m", Name: "n"},
		"match='a' priority='2'":                    {Match: "a", Own: true, Priority: api.Num{V: 2 * api.Places}},
		"match='a' priority=' -0.5 '":               {Match: "a", Own: true, Priority: api.Num{V: -api.Places / 2}},
		"match='a' priority='0'":                    {Match: "a", Own: true},
		"match='a' priority='.0000019'":             {Match: "a", Own: true, Priority: api.Num{V: 1}},
		"match='a' priority='1000000000000'":        {Match: "a", Own: true, Priority: api.Num{V: api.MaxNum}},
		"priority='1' mode='m' name='n' match='a'":  {Match: "a", Name: "n", Mode: "m", Own: true, Priority: api.Num{V: api.Places}},
		"match='' priority='1' mode='m' xml:id='i'": {Mode: "m", Own: true, Priority: api.Num{V: api.Places}},
	} {
		s := load(t, "<x:template "+attrs+"/>")
		want.Scope = plain()
		if len(s.Rules) != 1 || !reflect.DeepEqual(s.Rules[0], want) {
			t.Errorf("%s: %+v, want %+v", attrs, s.Rules, want)
		}
	}
	s := load(t, "<x:template name='n'> <x:param name='a'/><!--c--> <x:param name='b' select='1'/>t<x:variable name='a'/></x:template>")
	want := scoped(plain(), api.Instr{Do: api.Given, Name: "a"}, api.Instr{Do: api.Given, Name: "b", Select: "1"}, words("t"), api.Instr{Do: api.Let, Name: "a"})
	if !same(s.Rules[0].Body, want) {
		t.Errorf("%+v", s.Rules)
	}
}

func TestTop(t *testing.T) { // what stands in a stylesheet, in any order, and nothing at all
	for _, s := range []string{
		"<x:stylesheet version='' xmlns:x='" + transformUri + "'/>",
		"<x:transform version='1.0' xmlns:x='" + transformUri + "'> </x:transform>",
		"<stylesheet version='9' xmlns='" + transformUri + "'/>",
		"<?xml version='1.0'?><!--c--><?p?>" + sheetOf("\n<!--c--> <?p q?>\n") + "<!--c-->",
		"<!DOCTYPE a [<!ENTITY u '" + transformUri + "'>]><y:stylesheet xmlns:y='&u;' version='1'/>",
	} {
		got, e := xsheet.Load("s", named("s", s)...)
		if e != api.OK || len(got.Rules)+len(got.Globals)+len(got.Strip) > 0 || got.Method != api.Xml || got.Wide {
			t.Errorf("%s: %+v, %d", s, got, e)
		}
	}
	s := load(t, "<x:strip-space elements='a'/>\n<x:template name='n'/><!--c--><x:param name='p'/><x:output method='html'/> <x:variable name='v' select='1'/><?p?><x:template match='b'/><x:strip-space elements='* b'/><x:output encoding='utf-16'/>")
	want := scoped(plain(), api.Instr{Do: api.Given, Name: "p"}, api.Instr{Do: api.Let, Name: "v", Select: "1"})
	if len(s.Rules) != 2 || s.Rules[0].Name != "n" || s.Rules[1].Match != "b" || !same(s.Globals, want) || !reflect.DeepEqual(s.Strip, []string{"a", "*", "b"}) || s.Method != api.Html || !s.Wide {
		t.Errorf("%+v", s)
	}
}

func TestGlobals(t *testing.T) { // P11.2: variables and params are instructions too
	s := load(t, "<x:param name='b'>t<o a='{$c}'/></x:param><x:variable name='a'/><x:variable name='p:a' select='$b'/><x:param name='B' select=''/>")
	want := scoped(plain(), in(api.Instr{Do: api.Given, Name: "b"}, words("t"), api.Instr{Do: api.Literal, Name: "o", Attrs: []api.Pair{{Name: "a", Value: "{$c}"}}}),
		api.Instr{Do: api.Let, Name: "a"}, api.Instr{Do: api.Let, Name: "p:a", Select: "$b"}, api.Instr{Do: api.Given, Name: "B"})
	if !same(s.Globals, want) {
		t.Errorf("%+v", s.Globals)
	}
}

func TestOutputs(t *testing.T) { // P11.2: Method and Wide, each of the last one that names it
	for parts, want := range map[string]api.Sheet{
		"":                              {},
		"<x:output/>":                   {},
		"<x:output method='xml'/>":      {},
		"<x:output method='html'/>":     {Method: api.Html},
		"<x:output method='text'/>":     {Method: api.Plain},
		"<x:output encoding='utf-8'/>":  {},
		"<x:output encoding='UTF-16'/>": {Wide: true},
		"<x:output encoding='uTf-16'/>": {Wide: true},
		"<x:output encoding='Utf-8'/>":  {},
		"<x:output method='text' encoding='utf-16'> <!--c--></x:output>":           {Method: api.Plain, Wide: true},
		"<x:output method='html'/><x:output method='text'/>":                       {Method: api.Plain},
		"<x:output method='text'/><x:output method='xml'/>":                        {},
		"<x:output method='html'/><x:output encoding='utf-16'/>":                   {Method: api.Html, Wide: true},
		"<x:output method='html' encoding='utf-16'/><x:output/>":                   {Method: api.Html, Wide: true},
		"<x:output method='html' encoding='utf-16'/><x:output encoding='utf-8'/>":  {Method: api.Html},
		"<x:output encoding='utf-16' method='html'/><x:output method='text'/>":     {Method: api.Plain, Wide: true},
		"<x:output xml:lang='text' xmlns:p='u' p:method='text' p:encoding='utf'/>": {},
	} {
		if got := load(t, parts); got.Method != want.Method || got.Wide != want.Wide {
			t.Errorf("%s: %d %v", parts, got.Method, got.Wide)
		}
	}
}

func TestStrips(t *testing.T) { // P11.2: Strip
	for parts, want := range map[string]string{
		"<x:strip-space elements='a'/>":                                                                          "a",
		"<x:strip-space elements='*'/>":                                                                          "*",
		"<x:strip-space elements=''/>":                                                                           "",
		"<x:strip-space elements='&#10;b&#9; a&#13;\n* a '/>":                                                    "b a * a",
		"<x:strip-space elements='a b'/><x:strip-space elements='* a'/>":                                         "a b * a",
		"<x:strip-space elements='p:a b q:p' xmlns:p='u' xmlns:q='v w'/>":                                        "{u}a b {v w}p",
		"<x:strip-space elements='a' xmlns='u'/>":                                                                "a",
		"<x:strip-space elements='xml:a x:b'/>":                                                                  "{" + xmlUri + "}a {" + transformUri + "}b",
		"<x:strip-space elements='p:a' xmlns:p='u'/><x:strip-space elements='p:a' xmlns:p='v'> </x:strip-space>": "{u}a {v}a",
	} {
		if got := strings.Join(load(t, parts).Strip, " "); got != want {
			t.Errorf("%s: %s, want %s", parts, got, want)
		}
	}
}

func TestListsAreTheCallers(t *testing.T) { // P3
	l := append(make([]api.Resource, 0, 4), named("s", sheetOf("<x:import href='i'/><x:strip-space elements='a'/><x:variable name='v'>t</x:variable>"+templateOf("<o a='b'><x:if test='c'>u</x:if></o>")), "i", sheetOf(templateOf("t")))...)
	first, _ := xsheet.Load("s", l...)
	want, _ := xsheet.Load("s", l...)
	if !reflect.DeepEqual(first, want) || l[0].Name != "s" || l[:4][2] != (api.Resource{}) || l[:4][3] != (api.Resource{}) {
		t.Fatal("what is handed in is changed")
	}
	var spoil func(l []api.Instr)
	spoil = func(l []api.Instr) {
		_ = append(l, words("spoilt"))
		for i := range l {
			spoil(l[i].Kids)
			for j := range l[i].Scope {
				l[i].Scope[j] = api.Pair{Name: "spoilt"}
			}
			for j := range l[i].Attrs {
				l[i].Attrs[j] = api.Pair{Name: "spoilt"}
			}
		}
	}
	// What is spoilt in one place must be whole in all others.
	spoil(first.Rules[1].Body)
	if !reflect.DeepEqual(first.Rules[0], want.Rules[0]) || !reflect.DeepEqual(first.Rules[1].Scope, want.Rules[1].Scope) || !reflect.DeepEqual(first.Globals, want.Globals) {
		t.Error("two lists are one")
	}
	spoil(first.Globals)
	if again, _ := xsheet.Load("s", l...); !reflect.DeepEqual(again, want) {
		t.Error("something is kept")
	}
	parts, _ := xsheet.Text("a{b}c")
	parts[0], parts[1] = "x", "y"
	if again, _ := xsheet.Text("a{b}c"); !reflect.DeepEqual(again, []string{"a", "b", "c"}) {
		t.Error(again)
	}
}
