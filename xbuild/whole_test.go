package xbuild_test

import (
	"fmt"
	"math/rand"
	"reflect"
	"slices"
	"strings"
	"testing"

	"stencil/api"
	"stencil/xbuild"
	"stencil/xdm"
	"stencil/xmlscan"
)

// part is a node of the tree that a model keeps.
type part struct {
	kind     api.Kind
	name     api.Name
	text     string
	attrs    []part
	declared []api.Pair
	parts    []*part
}

// model does what a builder must do, by other rules: it keeps no maps, and looks for prefixes from the innermost element outward.
type model struct {
	top  part
	open []*part
}

func (m *model) inner() *part {
	if len(m.open) == 0 {
		return &m.top
	}
	return m.open[len(m.open)-1]
}

func (m *model) tagIsOpen() bool { return len(m.open) > 0 && len(m.inner().parts) == 0 }

var names = []string{"a", "b", "p", "q", "xml", "xmlns", "ns0", "ns1"}

func modelForm(n api.Name, attribute bool) bool {
	if !slices.Contains(names, n.Local) || n.Prefix != "" && !slices.Contains(names, n.Prefix) || strings.Contains(n.Uri, "\x00") {
		return false
	}
	if attribute && n.Prefix == "" && (n.Uri != "" || n.Local == "xmlns") {
		return false
	}
	return (n.Prefix == "" || n.Uri != "") && n.Prefix != "xmlns" && (n.Prefix == "xml") == (n.Uri == xmlUri)
}

func (m *model) add(p *part) {
	in := m.inner()
	if last := len(in.parts) - 1; p.kind == api.Text && last >= 0 && in.parts[last].kind == api.Text {
		in.parts[last].text += p.text
		return
	}
	in.parts = append(in.parts, p)
}

func (m *model) attr(n api.Name, v string) api.Errno {
	switch {
	case !modelForm(n, true) || strings.Contains(v, "\x00"):
		return api.ErrForm
	case !m.tagIsOpen():
		return api.ErrBuild
	}
	x := m.inner()
	for i, a := range x.attrs {
		if a.name.Uri == n.Uri && a.name.Local == n.Local {
			x.attrs[i] = part{name: n, text: v}
			return api.OK
		}
	}
	x.attrs = append(x.attrs, part{name: n, text: v})
	return api.OK
}

func (m *model) declare(prefix, uri string) api.Errno {
	switch {
	case !modelForm(api.Name{Uri: uri, Prefix: prefix, Local: "a"}, false):
		return api.ErrForm
	case !m.tagIsOpen():
		return api.ErrBuild
	}
	x := m.inner()
	x.declared = append(slices.DeleteFunc(x.declared, func(d api.Pair) bool { return d.Name == prefix }), api.Pair{Name: prefix, Value: uri})
	return api.OK
}

// standing is what a prefix stands for by a list of declarations, of which the last one counts.
func standing(l []api.Pair, prefix string) (string, bool) {
	for _, d := range slices.Backward(l) {
		if d.Name == prefix {
			return d.Value, true
		}
	}
	return "", false
}

// prefixed is a QName in a tag where here was declared, and that with it.
func prefixed(around, here []api.Pair, n api.Name) (string, []api.Pair) {
	uri, ok := standing(here, n.Prefix)
	if ok && uri != n.Uri && n.Uri != "" {
		for i := 0; ; i++ {
			n.Prefix = fmt.Sprint("ns", i)
			_, known := standing(here, n.Prefix)
			if far, _ := standing(around, n.Prefix); !known && far == "" {
				break
			}
		}
	}
	here = append(here, api.Pair{Name: n.Prefix, Value: n.Uri})
	return strings.TrimPrefix(n.Prefix+":"+n.Local, ":"), here
}

// tokens are those of a part, behind others.
func (p *part) tokens(l []api.Token, around []api.Pair) []api.Token {
	if p.kind != api.Element && p.kind != api.Root {
		return append(l, api.Token{Kind: p.kind, Name: p.name.Local, Text: p.text})
	}
	tag := api.Token{Kind: api.Element}
	here := slices.Clone(p.declared)
	if p.kind == api.Element {
		tag.Name, here = prefixed(around, here, p.name)
		var attrs []api.Pair
		for _, a := range p.attrs {
			qname := a.name.Local
			if a.name.Uri != "" {
				qname, here = prefixed(around, here, a.name)
			}
			attrs = append(attrs, api.Pair{Name: qname, Value: a.text})
		}
		for _, prefix := range []string{"", "a", "b", "ns0", "ns1", "ns2", "ns3", "ns4", "ns5", "ns6", "ns7", "p", "q"} {
			uri, ok := standing(here, prefix)
			if far, _ := standing(around, prefix); ok && far != uri {
				tag.Attrs = append(tag.Attrs, api.Pair{Name: strings.TrimSuffix("xmlns:"+prefix, ":"), Value: uri})
			}
		}
		tag.Attrs = append(tag.Attrs, attrs...)
		l = append(l, tag)
	}
	for _, inner := range p.parts {
		l = inner.tokens(l, append(slices.Clone(around), here...))
	}
	if p.kind == api.Element {
		l = append(l, api.Token{Kind: api.End, Name: tag.Name})
	}
	return l
}

func (p *part) string() string {
	s := ""
	if p.kind == api.Text {
		s = p.text
	}
	for _, inner := range p.parts {
		s += inner.string()
	}
	return s
}

// chooser chooses what is built.
type chooser struct {
	*rand.Rand
}

func (c chooser) pick(l ...string) string { return l[c.Intn(len(l))] }

func (c chooser) prefixAndUri() (string, string) {
	switch c.Intn(12) {
	case 0:
		return "xml", xmlUri
	case 1:
		return c.pick("", "p", "xml", "xmlns", "1"), c.pick("", "u", xmlUri, "\x00", "u")
	case 2, 3, 4:
		return "", c.pick("", "u", "v")
	}
	return c.pick("p", "p", "q", "a", "ns0", "ns1"), c.pick("u", "v", "w")
}

func (c chooser) name() api.Name {
	prefix, uri := c.prefixAndUri()
	return api.Name{Uri: uri, Prefix: prefix, Local: c.pick("a", "a", "b", "xmlns", "p", "1", "a", "b")}
}

// step takes one step with both, and tells both errors.
func (c chooser) step(b *xbuild.Builder, m *model) (got, want api.Errno) {
	bad := c.Intn(20) == 0
	switch c.Intn(16) {
	case 0, 1, 2:
		n := c.name()
		if !modelForm(n, false) {
			return b.Open(n), api.ErrForm
		}
		p := &part{kind: api.Element, name: n}
		m.add(p)
		m.open = append(m.open, p)
		return b.Open(n), api.OK
	case 3, 4, 5:
		if len(m.open) == 0 {
			return b.Close(), api.ErrBuild
		}
		m.open = m.open[:len(m.open)-1]
		return b.Close(), api.OK
	case 6, 7, 8, 9:
		n, v := c.name(), c.pick("", "1", "é", "&<\"\r\n", "\x00")
		return b.Attr(n, v), m.attr(n, v)
	case 10, 11, 12:
		prefix, uri := c.prefixAndUri()
		return b.Declare(prefix, uri), m.declare(prefix, uri)
	case 13:
		s := c.pick("x", "", "y ", "\r", "]]>")
		if bad {
			return b.Text(s + "\x00"), api.ErrForm
		}
		if s != "" {
			m.add(&part{kind: api.Text, text: s})
		}
		return b.Text(s), api.OK
	case 14:
		s := c.pick("", "c", " - ")
		if bad {
			return b.Comment(s + "-"), api.ErrForm
		}
		m.add(&part{kind: api.Comment, text: s})
		return b.Comment(s), api.OK
	}
	s := c.pick("", "c", "?")
	if bad {
		return b.Pi("p", s+"?>"), api.ErrForm
	}
	m.add(&part{kind: api.Pi, name: api.Name{Local: "p"}, text: s})
	return b.Pi("p", s), api.OK
}

// alike tells whether tokens are the same, where an empty list is none.
func alike(a, b []api.Token) bool {
	return slices.EqualFunc(a, b, func(x, y api.Token) bool {
		return x.Kind == y.Kind && x.Name == y.Name && x.Text == y.Text && slices.Equal(x.Attrs, y.Attrs)
	})
}

func TestModel(t *testing.T) { // P14.1 to P14.7
	c := chooser{rand.New(rand.NewSource(1))}
	trees := 0
	for range 30000 {
		b, m := xbuild.New(), &model{top: part{kind: api.Root}}
		for range c.Intn(40) {
			ahead := ""
			if c.Intn(10) == 0 {
				ahead = state(b)
			}
			got, want := c.step(b, m)
			if got != want {
				t.Fatal(state(b), got, want)
			}
			if got != api.OK && ahead != "" && state(b) != ahead {
				t.Fatal(ahead, state(b))
			}
			if c.Intn(30) == 0 {
				b = b.Fork()
			}
			if b.Deep() != len(m.open) || b.String() != m.top.string() {
				t.Fatal(b.Deep(), b.String())
			}
		}
		if l, e := b.Tokens(); b.Deep() > 0 && (e != api.ErrBuild || len(l) != 0) {
			t.Fatal(l, e)
		}
		for b.Deep() > 0 {
			b.Close()
		}
		got, e := b.Tokens()
		want := m.top.tokens(nil, []api.Pair{{Name: "xml", Value: xmlUri}})
		if e != api.OK || !alike(got, want) {
			t.Fatal(written(got), e, written(want))
		}
		trees += checkTrees(t, m.top, got)
	}
	if trees < 20000 {
		t.Error("too few trees", trees)
	}
}

// checkTrees looks at the trees of the elements at the top: how many there are (P14.5, E1).
func checkTrees(t *testing.T, top part, l []api.Token) int {
	t.Helper()
	n := 0
	for _, p := range top.parts {
		size := len(p.tokens(nil, nil))
		if p.kind == api.Element {
			checkTree(t, p, l[:size])
			n++
		}
		l = l[size:]
	}
	return n
}

func checkTree(t *testing.T, p *part, l []api.Token) {
	t.Helper()
	tree, e := xdm.Build(l...)
	if e != api.OK {
		t.Fatal(written(l), e)
	}
	s, e := xmlscan.Write(l...)
	back, e2, _ := xmlscan.Scan(s)
	if e != api.OK || e2 != api.OK || !alike(back, l) {
		t.Fatal(s, e, e2)
	}
	at := 1
	checkPart(t, tree, p, &at)
	if at != tree.Len() || tree.String(0) != p.string() {
		t.Fatal(written(l), at)
	}
}

// checkPart holds a part, and those in it, against the nodes from one on.
func checkPart(t *testing.T, tree *xdm.Tree, p *part, at *int) {
	t.Helper()
	same := func(kind api.Kind, name api.Name, text string) {
		got := tree.Name(*at)
		if tree.Kind(*at) != kind || got.Uri != name.Uri || got.Local != name.Local || tree.Text(*at) != text {
			t.Fatal(tree.Nodes(), *at, kind, name, text)
		}
		*at++
	}
	if p.kind == api.Element {
		checkScope(t, tree.Scope(*at), p)
	}
	same(p.kind, p.name, p.text)
	for _, a := range p.attrs {
		same(api.Attr, a.name, a.text)
	}
	for _, inner := range p.parts {
		checkPart(t, tree, inner, at)
	}
}

// checkScope asks whether what was declared in an element stands for it there (P14.2), but where its own name has no Uri.
func checkScope(t *testing.T, scope []api.Pair, p *part) {
	t.Helper()
	for _, d := range p.declared {
		if d.Name == "xml" || d.Name == "" && p.name.Uri == "" {
			continue
		}
		if uri, _ := standing(scope, d.Name); uri != d.Value {
			t.Fatal(scope, d)
		}
	}
}

// rebuilt is a tree built again, node by node.
func rebuilt(t *testing.T, tree *xdm.Tree, n int, b *xbuild.Builder) {
	t.Helper()
	e := api.OK
	switch tree.Kind(n) {
	case api.Element:
		e = b.Open(tree.Name(n))
		for _, d := range tree.Scope(n) {
			b.Declare(d.Name, d.Value)
		}
		for _, a := range tree.Attrs(n) {
			b.Attr(tree.Name(a), tree.Text(a))
		}
	case api.Text:
		e = b.Text(tree.Text(n))
	case api.Comment:
		e = b.Comment(tree.Text(n))
	case api.Pi:
		e = b.Pi(tree.Name(n).Local, tree.Text(n))
	}
	for _, inner := range tree.Kids(n) {
		rebuilt(t, tree, inner, b)
	}
	if tree.Kind(n) == api.Element {
		b.Close()
	}
	if e != api.OK {
		t.Fatal(n, e)
	}
}

func TestThereAndBack(t *testing.T) { // E1: a tree that is built again is the same
	for _, s := range []string{
		`<a/>`, `<a b="1" c='&#9;&#13;'>x<c>y</c>z</a>`, `<!--c--><?p q?><a xmlns="u"><b xmlns=""><c xmlns="v"/></b>&amp;<![CDATA[<]]></a><?r?>`,
		`<p:a xmlns:p="u" p:b="1" xml:lang="en"><p:a xmlns:p="v" xmlns:q="u" q:b="" p:b="2"/><q:c xmlns:q="u" xmlns=""/></p:a>`,
		`<ns0:a xmlns:ns0="u" xmlns:ns1="v" ns1:a=""><ns1:b xmlns:ns1="w" ns0:b=""/></ns0:a>`,
	} {
		tree, e := xdm.Parse(s)
		if e != api.OK {
			t.Fatal(s, e)
		}
		b := xbuild.New()
		rebuilt(t, tree, 0, b)
		l, e := b.Tokens()
		again, e2 := xdm.Build(l...)
		if e != api.OK || e2 != api.OK || !reflect.DeepEqual(tree.Nodes(), again.Nodes()) || b.String() != tree.String(0) {
			t.Error(s, written(l), e, e2)
		}
		for n := range tree.Len() {
			if !slices.Equal(tree.Scope(n), again.Scope(n)) {
				t.Error(s, n, again.Scope(n))
			}
		}
	}
}
