package xdm_test

import (
	"fmt"
	"math"
	"reflect"
	"slices"
	"strings"
	"testing"

	"stencil/api"
	"stencil/xdm"
)

const xmlUri = "http://www.w3.org/XML/1998/namespace"

func element(name string, attrs ...string) api.Token {
	x := api.Token{Kind: api.Element, Name: name}
	for i := 0; i+1 < len(attrs); i += 2 {
		x.Attrs = append(x.Attrs, api.Pair{Name: attrs[i], Value: attrs[i+1]})
	}
	return x
}

func end(name string) api.Token      { return api.Token{Kind: api.End, Name: name} }
func text(s string) api.Token        { return api.Token{Kind: api.Text, Text: s} }
func comment(s string) api.Token     { return api.Token{Kind: api.Comment, Text: s} }
func instr(name, s string) api.Token { return api.Token{Kind: api.Pi, Name: name, Text: s} }

func parse(t *testing.T, s string) *xdm.Tree {
	t.Helper()
	x, e := xdm.Parse(s)
	if e != api.OK || x == nil {
		t.Fatalf("Parse(%q) = %v, %d", s, x, e)
	}
	return x
}

// show is a node in short: its kind, {Uri}Prefix:Local, text, depth, parent, kids, attributes.
func show(x *xdm.Tree, n int) string {
	name := x.Name(n)
	return fmt.Sprintf("%d {%s}%s:%s %q %q %d %v %v", x.Kind(n), name.Uri, name.Prefix, name.Local, x.Text(n), x.String(n), x.Parent(n), x.Kids(n), x.Attrs(n))
}

func showAll(x *xdm.Tree) []string {
	var l []string
	for n := range x.Len() {
		l = append(l, fmt.Sprint(show(x, n), x.Scope(n)))
	}
	return l
}

func TestNodes(t *testing.T) { // P4.2, P4.3: all that is told of a tree
	x := parse(t, `<!--c--><?p q?><a xmlns="u" xmlns:v="w" v:b="1" c="2">x<v:d/><e xmlns="" xmlns:z="y" f="3">y<g/><!--h--></e>z</a><?i?>`)
	want := []string{
		`1 {}: "" "xyz" -1 [1 2 3 14] []`,
		`5 {}: "c" "c" 0 [] []`,
		`6 {}:p "q" "q" 0 [] []`,
		`2 {u}:a "" "xyz" 0 [6 7 8 13] [4 5]`,
		`3 {w}v:b "1" "1" 3 [] []`,
		`3 {}:c "2" "2" 3 [] []`,
		`4 {}: "x" "x" 3 [] []`,
		`2 {w}v:d "" "" 3 [] []`,
		`2 {}:e "" "y" 3 [10 11 12] [9]`,
		`3 {}:f "3" "3" 8 [] []`,
		`4 {}: "y" "y" 8 [] []`,
		`2 {}:g "" "" 8 [] []`,
		`5 {}: "h" "h" 8 [] []`,
		`4 {}: "z" "z" 3 [] []`,
		`6 {}:i "" "" 0 [] []`,
	}
	if x.Len() != len(want) {
		t.Fatal(x.Len())
	}
	deep := []int{0, 1, 1, 1, 2, 2, 2, 2, 2, 3, 3, 3, 3, 2, 1}
	nodes := x.Nodes()
	for n := range want {
		if got := show(x, n); got != want[n] {
			t.Errorf("%d: %s, want %s", n, got, want[n])
		}
		if got, want := nodes[n], (api.Node{Kind: x.Kind(n), Name: x.Name(n), Text: x.Text(n), Deep: deep[n]}); got != want {
			t.Errorf("%d: %v, want %v", n, got, want)
		}
	}
	for n := range x.Len() {
		want := map[int]string{3: "[{ u} {v w}]", 7: "[{ u} {v w}]", 8: "[{v w} {z y}]", 11: "[{v w} {z y}]"}[n]
		if want == "" {
			want = "[]"
		}
		if got := fmt.Sprint(x.Scope(n)); got != want {
			t.Errorf("%d: %s, want %s", n, got, want)
		}
	}
}

func TestExample(t *testing.T) { // the chapter's first example
	x := parse(t, `<a xmlns="u"><b c="1">x</b></a>`)
	if x.Len() != 5 || x.Kind(0) != api.Root || x.Name(1) != (api.Name{Uri: "u", Local: "a"}) || x.Name(2).Local != "b" || x.Name(3) != (api.Name{Local: "c"}) || x.Text(4) != "x" {
		t.Error(showAll(x))
	}
}

func TestPrefixes(t *testing.T) { // P4.2: what prefixes stand for
	for _, c := range []struct {
		s     string
		names string // of each node with a local name its Uri, and so on
		scope string // of the last element
	}{
		{"<a/>", "{}a", "[]"},
		{"<a xmlns='u'/>", "{u}a", "[{ u}]"},
		{"<p:a xmlns:p='u'/>", "{u}p:a", "[{p u}]"},
		{"<p:a xmlns:p='u' p:b='1' b='2'/>", "{u}p:a {u}p:b {}b", "[{p u}]"},
		{"<a p:b='1' xmlns:p='u' b='2'/>", "{}a {u}p:b {}b", "[{p u}]"},
		{"<a xmlns='u' b=''><c/></a>", "{u}a {}b {u}c", "[{ u}]"},
		{"<a xmlns='u'><b xmlns=''><c/></b></a>", "{u}a {}b {}c", "[]"},
		{"<a xmlns='u'><b xmlns=''/><c/></a>", "{u}a {}b {u}c", "[{ u}]"},
		{"<a xmlns=''/>", "{}a", "[]"},
		{"<p:a xmlns:p='u'><p:b xmlns:p='v' p:c=''/><p:d/></p:a>", "{u}p:a {v}p:b {v}p:c {u}p:d", "[{p u}]"},
		{"<a xmlns:z='1' xmlns:b='2' xmlns:é='3' xmlns:B='4' xmlns='5' xmlns:ba='6'/>", "{5}a", "[{ 5} {B 4} {b 2} {ba 6} {z 1} {é 3}]"},
		{"<a xmlns:p='u'><b xmlns:q='u'><c xmlns:p='v'/></b></a>", "{}a {}b {}c", "[{p v} {q u}]"},
		{"<a xml:b='1'><xml:c/></a>", "{}a {" + xmlUri + "}xml:b {" + xmlUri + "}xml:c", "[]"},
		{"<a xmlns:xml='" + xmlUri + "' xml:b='1'/>", "{}a {" + xmlUri + "}xml:b", "[]"},
		{"<a xmlns='u' xmlns:p='u' b='' p:b=''/>", "{u}a {}b {u}p:b", "[{ u} {p u}]"},
		{"<xmlns/>", "{}xmlns", "[]"},
		{"<a xmlns:p=' u '/>", "{}a", "[{p  u }]"},
		{"<a xmlns:p='u&amp;&lt;'/>", "{}a", "[{p u&<}]"},
		{"<a b='xmlns' xmlnsx='1' p:xmlns='2' xmlns:p='u'/>", "{}a {}b {}xmlnsx {u}p:xmlns", "[{p u}]"},
	} {
		x := parse(t, c.s)
		var names []string
		last := 0
		for n := range x.Len() {
			if name := x.Name(n); name.Local != "" {
				qname := strings.TrimPrefix(name.Prefix+":"+name.Local, ":")
				names = append(names, "{"+name.Uri+"}"+qname)
			}
			if x.Kind(n) == api.Element {
				last = n
			}
		}
		if got := strings.Join(names, " "); got != c.names || fmt.Sprint(x.Scope(last)) != c.scope {
			t.Errorf("%s: %s, %v, want %s, %s", c.s, got, x.Scope(last), c.names, c.scope)
		}
	}
}

func TestBuildFaults(t *testing.T) { // P4.1: ErrPrefix, ErrKnown, and the first one of several
	two := " xmlns:p='u' xmlns:q='u' p:b='' q:b=''"
	for s, want := range map[string]api.Errno{
		// Prefixes that stand for nothing.
		"<p:a/>": api.ErrPrefix, "<a p:b=''/>": api.ErrPrefix, "<a><p:b/></a>": api.ErrPrefix, "<a><b xmlns:p='u'/><p:c/></a>": api.ErrPrefix,
		"<a xmlns='u' p:b=''/>": api.ErrPrefix, "<P:a xmlns:p='u'/>": api.ErrPrefix, "<xmlns:a/>": api.ErrPrefix, "<p:a xmlns:pp='u'/>": api.ErrPrefix,
		// Declarations that may not be.
		"<a xmlns:p=''/>": api.ErrPrefix, "<a xmlns:p='u'><b xmlns:p=''/></a>": api.ErrPrefix, "<a xmlns:xml='u'/>": api.ErrPrefix, "<a xmlns:xml=''/>": api.ErrPrefix,
		"<a xmlns:p='" + xmlUri + "'/>": api.ErrPrefix, "<a xmlns='" + xmlUri + "'/>": api.ErrPrefix,
		"<a xmlns:xmlns='u'/>": api.ErrPrefix, "<a xmlns:xmlns=''/>": api.ErrPrefix, "<a xmlns:xmlns='" + xmlUri + "'/>": api.ErrPrefix,
		// Two attributes of one name.
		"<a" + two + "/>": api.ErrKnown, "<a xmlns:p='u'><b xmlns:q='u' q:c='' d='' p:c=''/></a>": api.ErrKnown,
		"<a p:b='' q:b='' xmlns:q='u' xmlns:p='u'/>": api.ErrKnown,
		// Of one token ErrPrefix, of several the first one.
		"<a" + two + " r:b=''/>": api.ErrPrefix, "<r:a" + two + "/>": api.ErrPrefix, "<a" + two + " xmlns:r=''/>": api.ErrPrefix,
		"<a" + two + "><r:b/></a>": api.ErrKnown, "<r:a><b" + two + "/></r:a>": api.ErrPrefix, "<a><b" + two + "/><c" + two + " xmlns:r=''/></a>": api.ErrKnown,
		// Names that are not the same.
		"<a xmlns:p='u' xmlns:q='v' p:b='' q:b='' b=''/>": api.OK, "<a xmlns='u' xmlns:p='u' b='' p:b=''/>": api.OK, "<a xmlns:p='u' p:b='' p:c=''/>": api.OK,
		// Scan's errors, ahead of all others.
		"": api.ErrForm, "<p:a>": api.ErrForm, "<p:a/><b/>": api.ErrForm, "<p:a>\x00": api.ErrChar, "<p:a>\xff</p:a>": api.ErrChar, "<a b='' b=''/>": api.ErrForm,
		"<a>&x;</a>": api.ErrForm, "<p:a>" + strings.Repeat("<b>", api.MaxDeep): api.ErrLimit, strings.Repeat("x", api.MaxText+1): api.ErrLimit,
	} {
		x, e := xdm.Parse(s)
		if e != want || (x == nil) != (want != api.OK) {
			t.Errorf("Parse(%.100q) = %v, %d, want %d", s, x, e, want)
		}
	}
}

func TestBuildWrong(t *testing.T) { // P4.1: Write's errors; P1: tokens that are none
	for _, l := range [][]api.Token{
		nil, {}, {text("x")}, {comment("x")}, {element("a")}, {end("a")}, {element("a"), end("b")}, {element("a"), text(""), end("a")}, {element("a"), text("x"), text("y"), end("a")},
		{element("a", "b", "", "b", ""), end("a")}, {element("1"), end("1")}, {element("a", "b", "\x00"), end("a")}, {element("a"), end("a"), element("b"), end("b")}, {element("a"), end("a"), end("a")},
		{element("a"), {Kind: api.Root}, end("a")}, {element("a"), {Kind: api.Attr, Name: "b"}, end("a")}, {element("a"), {}, end("a")}, {element("a"), {Kind: 99}, end("a")}, {{Kind: -1}},
		{element("a"), comment("--"), end("a")}, {element("a"), instr("xml", ""), end("a")}, {element("a:b:c"), end("a:b:c")}, {element("p:a"), end("p:b")}, {element("a", "xmlns", "\xff"), end("a")},
	} {
		if x, e := xdm.Build(l...); x != nil || e != api.ErrForm {
			t.Errorf("Build(%v) = %v, %d", l, x, e)
		}
	}
}

func TestBuildLimits(t *testing.T) { // P4.1: MaxDeep, MaxAttrs, MaxNodes, but not MaxText
	nested := func(n int) []api.Token {
		return append(slices.Repeat([]api.Token{element("a")}, n), slices.Repeat([]api.Token{end("a")}, n)...)
	}
	crowded := func(n int) []api.Token {
		x := element("a")
		for i := range n {
			x.Attrs = append(x.Attrs, api.Pair{Name: fmt.Sprint("a", i)})
		}
		return []api.Token{element("b"), x, end("a"), end("b")}
	}
	declaring := func(n int) []api.Token {
		l := crowded(n)
		for i := range l[1].Attrs {
			l[1].Attrs[i] = api.Pair{Name: fmt.Sprint("xmlns:a", i), Value: "u"}
		}
		return l
	}
	listed := func(n int) []api.Token {
		return append(slices.Repeat([]api.Token{comment("")}, n-2), element("a"), end("a"))
	}
	long := text(strings.Repeat("x", api.MaxText+1))
	for _, x := range []struct {
		most int
		make func(int) []api.Token
	}{{api.MaxDeep, nested}, {api.MaxAttrs, crowded}, {api.MaxAttrs, declaring}, {api.MaxNodes, listed}} {
		if tree, e := xdm.Build(x.make(x.most)...); tree == nil || e != api.OK {
			t.Error(x.most, e)
		}
		if tree, e := xdm.Build(x.make(x.most + 1)...); tree != nil || e != api.ErrLimit {
			t.Error(x.most, e)
		}
		if tree, e := xdm.Build(append(x.make(x.most+1), end("a"))...); tree != nil || e != api.ErrForm {
			t.Error(x.most, e)
		}
		// A text that is too long hides none of the others.
		l := x.make(x.most)
		if x.most != api.MaxNodes {
			l = slices.Insert(l, 1, long)
			if tree, e := xdm.Build(l...); tree == nil || e != api.OK || len(tree.String(0)) != len(long.Text) {
				t.Error(x.most, e)
			}
			if tree, e := xdm.Build(slices.Insert(x.make(x.most+1), 1, long)...); tree != nil || e != api.ErrLimit {
				t.Error(x.most, e)
			}
		}
	}
	for n, want := range map[int]api.Errno{api.MaxNodes: api.OK, api.MaxNodes + 1: api.ErrLimit} {
		if _, e := xdm.Build(slices.Insert(listed(n-1), n-2, long)...); e != want {
			t.Error(n, e)
		}
	}
	if tree, e := xdm.Build(element("p:a"), long, end("p:a")); tree != nil || e != api.ErrPrefix {
		t.Error(e)
	}
	if tree, e := xdm.Build(append([]api.Token{element("p:a")}, nested(api.MaxDeep+1)...)...); tree != nil || e != api.ErrForm {
		t.Error(e)
	}
	l := append([]api.Token{element("p:a")}, append(nested(api.MaxDeep), end("p:a"))...)
	if tree, e := xdm.Build(l...); tree != nil || e != api.ErrLimit {
		t.Error(e)
	}
	// What entities came to may make a text longer than a document.
	k := strings.Repeat("k", 1000)
	x := parse(t, "<!DOCTYPE a [<!ENTITY e '"+k+"'>]><a>"+strings.Repeat(k, 20)+strings.Repeat("&e;", 30)+"</a>")
	if len(x.String(0)) != 50000 {
		t.Error(len(x.String(0)))
	}
}

func TestNumbersThatAreNone(t *testing.T) { // P1, P4.2: of nil trees, and numbers below 0 and past the end
	x := parse(t, "<a xmlns:p='u' b='1'>x</a>")
	for _, tree := range []*xdm.Tree{nil, x} {
		for _, n := range []int{-1, -2, 4, 5, math.MaxInt, math.MinInt, 1 << 32} {
			if tree.Kind(n) != api.NoKind || tree.Name(n) != (api.Name{}) || tree.Text(n) != "" || tree.String(n) != "" || tree.Parent(n) != -1 ||
				len(tree.Kids(n)) != 0 || len(tree.Attrs(n)) != 0 || len(tree.Scope(n)) != 0 {
				t.Error(n, show(tree, n))
			}
		}
	}
	var none *xdm.Tree
	if none.Len() != 0 || none.Strip("*") != nil || none.Strip() != nil || len(none.Nodes()) != 0 || none.Parent(0) != -1 || none.Kind(0) != api.NoKind || none.String(0) != "" || none.Kids(0) != nil {
		t.Error("a nil tree")
	}
}

func TestListsAreTheCallers(t *testing.T) { // P3
	l := make([]api.Token, 0, 8)
	l = append(l, element("a", "xmlns:p", "u", "b", "1"), element("c"), end("c"), text("x"), end("a"))
	l[0].Attrs = append(make([]api.Pair, 0, 5), l[0].Attrs...)
	kept := slices.Clone(l)
	kept[0].Attrs = slices.Clone(l[0].Attrs)
	x, _ := xdm.Build(l...)
	if !reflect.DeepEqual(l, kept) || !reflect.DeepEqual(l[:8][5:], make([]api.Token, 3)) || !reflect.DeepEqual(l[0].Attrs[:5][2:], make([]api.Pair, 3)) {
		t.Error("what is handed in is changed")
	}
	want := showAll(x)
	for i := range l {
		for j := range l[i].Attrs {
			l[i].Attrs[j] = api.Pair{Name: "spoilt", Value: "spoilt"}
		}
		l[i] = text("spoilt")
	}
	for n := range x.Len() {
		for _, list := range [][]int{x.Kids(n), x.Attrs(n)} {
			_ = append(list, -9)
			for i := range list {
				list[i] = -9
			}
		}
		scope := x.Scope(n)
		_ = append(scope, api.Pair{})
		for i := range scope {
			scope[i] = api.Pair{Name: "spoilt", Value: "spoilt"}
		}
	}
	for i, nodes := 0, x.Nodes(); i < len(nodes); i++ {
		nodes[i] = api.Node{}
	}
	names := append(make([]string, 0, 3), "*")
	x.Strip(names...)
	if got := showAll(x); !reflect.DeepEqual(got, want) || names[0] != "*" || names[:3][1] != "" {
		t.Errorf("%v, want %v", got, want)
	}
	if first, second := x.Kids(1), x.Kids(1); &first[0] == &second[0] {
		t.Error("one list is answered twice")
	}
}

func TestStrip(t *testing.T) { // P4.3
	for _, c := range []struct{ s, names, want string }{
		{"<a> <b> </b> </a>", "*", "<a><b></b></a>"},
		{"<a> <b> </b> </a>", "", "<a> <b> </b> </a>"},
		{"<a> <b> </b> </a>", "a", "<a><b> </b></a>"},
		{"<a> <b> </b> </a>", "b", "<a> <b></b> </a>"},
		{"<a> <b> </b> </a>", "c b a a", "<a><b></b></a>"},
		{"<a> <b> </b> </a>", "A {}a {u}a @a a:a", "<a> <b> </b> </a>"},
		{"<a>\t\n&#13; <!--c-->\n<?p?> x <![CDATA[ ]]> <b/>\n</a>", "a", "<a><!--c--><?p?> x   <b></b></a>"},
		{"<a>\u00a0<b/>\u2003</a>", "*", "<a>\u00a0<b></b>\u2003</a>"},
		{"<a xmlns='u'> <b xmlns=''> </b></a>", "a", "<a xmlns='u'> <b xmlns=''> </b></a>"},
		{"<a xmlns='u'> <b xmlns=''> </b></a>", "{u}a", "<a xmlns='u'><b xmlns=''> </b></a>"},
		{"<a xmlns='u'> <b xmlns=''> </b></a>", "b", "<a xmlns='u'> <b xmlns=''></b></a>"},
		{"<a xmlns='u'> <b xmlns=''> </b></a>", "{}b u:a {u}* {*}a", "<a xmlns='u'> <b xmlns=''> </b></a>"},
		{"<p:a xmlns:p='u'> <p:b> </p:b></p:a>", "p:a {u}b", "<p:a xmlns:p='u'> <p:b></p:b></p:a>"},
		{"<a xml:space='preserve'> <b> </b></a>", "*", "<a xml:space='preserve'> <b> </b></a>"},
		{"<a xml:space='default'> <b> </b></a>", "*", "<a xml:space='default'><b></b></a>"},
		{"<a xml:space='x'> <b> </b></a>", "*", "<a xml:space='x'><b></b></a>"},
		{"<a xml:space='Preserve'> </a>", "*", "<a xml:space='Preserve'></a>"},
		{"<a> <b xml:space='preserve'> <c> </c> </b> </a>", "*", "<a><b xml:space='preserve'> <c> </c> </b></a>"},
		{"<a> <b xml:space='preserve'> <c xml:space='default'> <d> </d></c> </b> </a>", "*", "<a><b xml:space='preserve'> <c xml:space='default'><d></d></c> </b></a>"},
		{"<a xml:space='preserve'> <b xml:space=''> </b></a>", "*", "<a xml:space='preserve'> <b xml:space=''></b></a>"},
		{"<a space='preserve' xml:lang='preserve'> </a>", "*", "<a space='preserve' xml:lang='preserve'></a>"},
		{"<a xmlns:p='u' p:space='preserve'> </a>", "*", "<a xmlns:p='u' p:space='preserve'></a>"},
		{"<a b=' '> <!-- --><?p  ?></a>", "*", "<a b=' '><!-- --><?p?></a>"},
		{" <!--c--> <a/> ", "*", "<!--c--><a/>"},
	} {
		x := parse(t, c.s)
		before := showAll(x)
		got, want := x.Strip(strings.Fields(c.names)...), parse(t, c.want)
		if !reflect.DeepEqual(showAll(got), showAll(want)) || !reflect.DeepEqual(got.Nodes(), want.Nodes()) {
			t.Errorf("%s without %q: %v, want %v", c.s, c.names, showAll(got), showAll(want))
		}
		if got == x || !reflect.DeepEqual(showAll(x), before) {
			t.Errorf("%s: the tree itself is changed", c.s)
		}
		if again := got.Strip(strings.Fields(c.names)...); !reflect.DeepEqual(showAll(again), showAll(got)) {
			t.Errorf("%s: stripped once is not stripped", c.s)
		}
	}
	if x := parse(t, "<a/>"); x.Strip() == x || x.Strip("*") == x {
		t.Error("Strip is the same tree")
	}
}
