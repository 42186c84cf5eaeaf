package xdm_test

import (
	"fmt"
	"math/rand"
	"reflect"
	"slices"
	"sort"
	"strings"
	"testing"

	"stencil/api"
	"stencil/xdm"
	"stencil/xmlscan"
)

// item is a node of a tree that is made by hand, as another rule would have it.
type item struct {
	kind   api.Kind
	name   api.Name
	text   string
	attrs  []*item
	kids   []*item
	parent *item
	scope  []api.Pair // as it is looked up: the innermost declaration last
	number int
	deep   int
}

// model is the tree of tokens; false, if a prefix stands for nothing.
func model(l []api.Token) (*item, bool) {
	top := &item{kind: api.Root}
	at := top
	for _, x := range l {
		y := &item{kind: x.Kind, text: x.Text, parent: at, deep: at.deep + 1}
		switch x.Kind {
		case api.End:
			at = at.parent
			continue
		case api.Pi:
			y.name.Local = x.Name
		case api.Element:
			y.scope = slices.Clone(at.scope)
			for _, a := range x.Attrs {
				if a.Name == "xmlns" {
					y.scope = append(y.scope, api.Pair{Value: a.Value})
				} else if p, ok := strings.CutPrefix(a.Name, "xmlns:"); ok {
					y.scope = append(y.scope, api.Pair{Name: p, Value: a.Value})
				}
			}
			var ok bool
			if y.name, ok = lookUp(y.scope, x.Name); !ok {
				return nil, false
			}
			for _, a := range x.Attrs {
				if strings.HasPrefix(a.Name, "xmlns") {
					continue
				}
				name, ok := lookUp(y.scope, a.Name)
				if name.Prefix == "" {
					name.Uri = ""
				}
				if !ok {
					return nil, false
				}
				y.attrs = append(y.attrs, &item{kind: api.Attr, name: name, text: a.Value, parent: y, deep: y.deep + 1})
			}
		}
		at.kids = append(at.kids, y)
		if x.Kind == api.Element {
			at = y
		}
	}
	return top, true
}

func lookUp(scope []api.Pair, qname string) (api.Name, bool) {
	prefix, local, ok := strings.Cut(qname, ":")
	if !ok {
		prefix, local = "", qname
	}
	uri := means(scope, prefix)
	return api.Name{Uri: uri, Prefix: prefix, Local: local}, prefix == "" || uri != ""
}

func means(scope []api.Pair, prefix string) string {
	for i := len(scope) - 1; i >= 0; i-- {
		if scope[i].Name == prefix {
			return scope[i].Value
		}
	}
	if prefix == "xml" {
		return xmlUri
	}
	return ""
}

func (x *item) all() []*item {
	l := append([]*item{x}, x.attrs...)
	for _, y := range x.kids {
		l = append(l, y.all()...)
	}
	return l
}

func (x *item) string() string {
	if x.kind != api.Root && x.kind != api.Element {
		return x.text
	}
	s := ""
	for _, y := range x.kids {
		if y.kind == api.Text || y.kind == api.Element {
			s += y.string()
		}
	}
	return s
}

func (x *item) told() []api.Pair {
	var l []api.Pair
	for _, p := range x.scope {
		known := slices.ContainsFunc(l, func(q api.Pair) bool { return q.Name == p.Name })
		if uri := means(x.scope, p.Name); !known && uri != "" && p.Name != "xml" {
			l = append(l, api.Pair{Name: p.Name, Value: uri})
		}
	}
	sort.Slice(l, func(i, j int) bool { return l[i].Name < l[j].Name })
	return l
}

func numbers(l []*item) []int {
	var n []int
	for _, x := range l {
		n = append(n, x.number)
	}
	return n
}

// against holds a tree against the model of its tokens.
func against(t *testing.T, tree *xdm.Tree, top *item) {
	t.Helper()
	l := top.all()
	for n, x := range l {
		x.number = n
	}
	nodes := tree.Nodes()
	if tree.Len() != len(l) || len(nodes) != len(l) {
		t.Fatal(tree.Len(), len(l))
	}
	for n, x := range l {
		parent := -1
		if x.parent != nil {
			parent = x.parent.number
		}
		got := fmt.Sprint(tree.Kind(n), tree.Name(n), tree.Text(n), tree.String(n), tree.Parent(n), tree.Kids(n), tree.Attrs(n), tree.Scope(n), nodes[n])
		want := fmt.Sprint(x.kind, x.name, x.text, x.string(), parent, numbers(x.kids), numbers(x.attrs), x.told(), api.Node{Kind: x.kind, Name: x.name, Text: x.text, Deep: x.deep})
		if got != want {
			t.Fatalf("%d: %s, want %s", n, got, want)
		}
	}
}

// randomTokens are those of a document, with prefixes that may stand for nothing.
func randomTokens(r *rand.Rand) []api.Token {
	pick := func(l ...string) string { return l[r.Intn(len(l))] }
	var inner func(deep int) []api.Token
	inner = func(deep int) []api.Token {
		x := element(pick("a", "b", "p:a", "q:b", "xml:c"))
		known := map[string]bool{}
		for range r.Intn(5) {
			name := pick("a", "b", "p:a", "q:a", "q:b", "xml:space", "xmlns", "xmlns:p", "xmlns:q", "xmlns:pq")
			value := pick("u", "v", "w")
			if name == "xmlns" {
				value = pick("", "u", "v")
			} else if name == "xml:space" {
				value = pick("preserve", "default")
			}
			if !known[name] {
				x.Attrs = append(x.Attrs, api.Pair{Name: name, Value: value})
			}
			known[name] = true
		}
		l := []api.Token{x}
		for range r.Intn(5) {
			switch kind := r.Intn(5); {
			case kind == 0 && l[len(l)-1].Kind != api.Text:
				l = append(l, text(pick("x", "yz", " ", " \t\n\r", "&<", "é ")))
			case kind == 1:
				l = append(l, comment(pick("", "c", " ")))
			case kind == 2:
				l = append(l, instr(pick("p", "q"), pick("", "r")))
			case deep < 5:
				l = append(l, inner(deep+1)...)
			}
		}
		return append(l, end(x.Name))
	}
	l := []api.Token{comment("c")}[:r.Intn(2)]
	return append(append(l, inner(1)...), []api.Token{instr("z", "")}[:r.Intn(2)]...)
}

func TestAgainstModel(t *testing.T) { // P4.1, P4.2, P4.3, P6, E1
	chance := rand.New(rand.NewSource(7))
	built := 0
	for range 8000 {
		l := randomTokens(chance)
		tree, e := xdm.Build(l...)
		again, e2 := xdm.Build(l...)
		top, ok := model(l)
		if e == api.ErrKnown {
			continue
		}
		if (e == api.OK) != ok || e != api.OK && (e != api.ErrPrefix || tree != nil) || e != e2 {
			t.Fatalf("Build(%v) = %d, then %d, want %v", l, e, e2, ok)
		}
		if !ok {
			continue
		}
		built++
		against(t, tree, top)
		s, _ := xmlscan.Write(l...)
		read, e := xdm.Parse(s)
		if e != api.OK || !reflect.DeepEqual(showAll(read), showAll(tree)) || !reflect.DeepEqual(showAll(again), showAll(tree)) {
			t.Fatalf("%s is read as another tree: %d", s, e)
		}
	}
	if built < 500 {
		t.Error(built)
	}
}

func TestKnownAgainstModel(t *testing.T) { // P4.1: ErrKnown just if two attributes of an element have one name
	chance := rand.New(rand.NewSource(8))
	counts := map[api.Errno]int{}
	for range 8000 {
		l := randomTokens(chance)
		_, e := xdm.Build(l...)
		top, ok := model(l)
		if !ok {
			continue
		}
		want := api.OK
		for _, x := range top.all() {
			seen := map[[2]string]bool{}
			for _, a := range x.attrs {
				key := [2]string{a.name.Uri, a.name.Local}
				if seen[key] {
					want = api.ErrKnown
				}
				seen[key] = true
			}
		}
		if counts[e]++; e != want {
			t.Fatalf("Build(%v) = %d, want %d", l, e, want)
		}
	}
	if counts[api.ErrKnown] == 0 || counts[api.OK] == 0 {
		t.Error(counts)
	}
}

func TestStripAgainstTokens(t *testing.T) { // P4.3: the tree of the tokens without these texts
	chance := rand.New(rand.NewSource(9))
	for range 4000 {
		l := randomTokens(chance)
		tree, e := xdm.Build(l...)
		if e != api.OK {
			continue
		}
		names := [][]string{{"*"}, {"a"}, {"{u}a", "b"}, {"{v}b", "{w}a", "x"}, {}}[chance.Intn(5)]
		top, _ := model(l)
		var spaces []string // what xml:space says, from the outside to the inside
		var inside []*item
		var left []api.Token
		elements := slices.DeleteFunc(top.all(), func(x *item) bool { return x.kind != api.Element })
		for _, x := range l {
			switch x.Kind {
			case api.Element:
				space := "none"
				for _, a := range x.Attrs {
					if a.Name == "xml:space" {
						space = a.Value
					}
				}
				spaces, inside, elements = append(spaces, space), append(inside, elements[0]), elements[1:]
			case api.End:
				spaces, inside = spaces[:len(spaces)-1], inside[:len(inside)-1]
			case api.Text:
				around := slices.DeleteFunc(slices.Clone(spaces), func(s string) bool { return s == "none" })
				keep := len(around) > 0 && around[len(around)-1] == "preserve"
				name := inside[len(inside)-1].name
				full := strings.TrimPrefix("{"+name.Uri+"}"+name.Local, "{}")
				if strings.Trim(x.Text, " \t\n\r") == "" && !keep && (slices.Contains(names, "*") || slices.Contains(names, full)) {
					continue
				}
			}
			left = append(left, x)
		}
		stripped := tree.Strip(names...)
		top, _ = model(left)
		against(t, stripped, top)
	}
}

func TestOrder(t *testing.T) { // P4.4 (E4), P4.5 (E6), P4.6
	chance := rand.New(rand.NewSource(10))
	for range 3000 {
		l := randomTokens(chance)
		tree, e := xdm.Build(l...)
		if e != api.OK {
			continue
		}
		words := ""
		for n := range tree.Len() {
			if p := tree.Parent(n); p >= n || n > 0 && !slices.Contains(append(tree.Kids(p), tree.Attrs(p)...), n) {
				t.Fatal(n, p)
			}
			last := n
			for _, inner := range append(tree.Attrs(n), tree.Kids(n)...) {
				if inner <= last || tree.Parent(inner) != n {
					t.Fatal(n, last, inner)
				}
				last = inner
			}
			if tree.Kind(n) == api.Text {
				words += tree.Text(n)
			}
			wantUri(t, tree, n)
		}
		if tree.String(0) != words {
			t.Fatalf("%q, want %q", tree.String(0), words)
		}
	}
}

func wantUri(t *testing.T, tree *xdm.Tree, n int) {
	t.Helper()
	name, at := tree.Name(n), n
	switch tree.Kind(n) {
	case api.Attr:
		at = tree.Parent(n)
	case api.Element:
	default:
		return
	}
	want := ""
	for _, p := range tree.Scope(at) {
		if p.Name == name.Prefix && (name.Prefix != "" || at == n) {
			want = p.Value
		}
	}
	if name.Prefix == "xml" {
		want = xmlUri
	}
	if name.Uri != want || name.Prefix != "" && want == "" {
		t.Fatalf("%d: %v, want %q", n, name, want)
	}
}

func TestAnyTexts(t *testing.T) { // P1: Parse ends at texts of any bytes, with a tree or an error
	chance := rand.New(rand.NewSource(11))
	for range 3000 {
		s, _ := xmlscan.Write(randomTokens(chance)...)
		b := []byte(s)
		for range chance.Intn(4) {
			b[chance.Intn(len(b))] = byte(chance.Intn(256))
		}
		if tree, e := xdm.Parse(string(b)); (tree == nil) != (e != api.OK) {
			t.Fatalf("Parse(%q) = %v, %d", b, tree, e)
		}
	}
}
