package xpattern_test

import (
	"fmt"
	"math/rand"
	"reflect"
	"slices"
	"strings"
	"testing"

	"stencil/api"
	"stencil/xdm"
	"stencil/xeval"
	"stencil/xnum"
	"stencil/xpattern"
)

// maker makes trees and patterns by chance.
type maker struct {
	*rand.Rand
}

func (m maker) pick(l ...string) string { return l[m.Intn(len(l))] }

func (m maker) element(deep int) string {
	name := m.pick("a", "a", "b", "c", "p:a")
	s := "<" + name
	for _, attr := range []string{"a", "b", "p:a"} {
		if m.Intn(4) == 0 {
			s += fmt.Sprintf(" %s='%d'", attr, m.Intn(3))
		}
	}
	s += ">"
	for range m.Intn(4) {
		switch {
		case m.Intn(4) == 0:
			s += m.pick("1<!--x-->", "<!--2-->", "<?a?>", "<?b c?>")
		case deep > 0:
			s += m.element(deep - 1)
		}
	}
	return s + "</" + name + ">"
}

func (m maker) tree(t testing.TB) *xdm.Tree {
	return parse(t, m.pick("", "<!--x-->", "<?a?>")+"<r xmlns:p='u'>"+m.element(3)+m.element(2)+"</r>"+m.pick("", "<!--y-->"))
}

// A step as it is written, and as it is meant without its predicates.
type step struct {
	attr bool
	test string
	more string // predicates
}

// alternative is a path: whether it begins at the root, and ahead of each step whether // stands there.
type alternative struct {
	top   bool
	far   []bool
	steps []step
}

func (m maker) alternative(predicates bool) alternative {
	a := alternative{top: m.Intn(3) == 0}
	count := m.Intn(4)
	if count == 0 && !a.top {
		count = 1
	}
	for i := range count {
		s := step{attr: m.Intn(5) == 0, test: m.pick("a", "a", "b", "c", "r", "p:a", "p:*", "*", "*", "node()", "text()", "comment()", "processing-instruction()", "processing-instruction('b')")}
		for predicates && m.Intn(3) == 0 {
			s.more += "[" + m.pick("1", "2", "last()", "a", "@a", "@a = 1", "not(b)", "..", ". = 1", "position() > 1", "$v", ". = $w", "$x = 1", "not(@b) or count(1)", "ancestor::b", "/r/a", "following-sibling::*", "true()", "self::a or $x", "count(//*) > 9") + "]"
		}
		a.steps = append(a.steps, s)
		a.far = append(a.far, m.Intn(3) == 0 && (i > 0 || a.top))
	}
	return a
}

func (a alternative) String() string {
	s := ""
	for i, one := range a.steps {
		switch {
		case a.far[i]:
			s += "//"
		case i > 0 || a.top:
			s += "/"
		}
		if one.attr {
			s += "@"
		}
		s += one.test + one.more
	}
	if s == "" {
		return "/"
	}
	return s
}

// takes tells whether a step's axis and test take a node that lies in another one.
func (s step) takes(t *xdm.Tree, n int) bool {
	kind, name := t.Kind(n), t.Name(n)
	if kind == api.Root || (kind == api.Attr) != s.attr {
		return false
	}
	named := kind == api.Element || kind == api.Attr
	switch s.test {
	case "node()":
		return true
	case "text()":
		return kind == api.Text
	case "comment()":
		return kind == api.Comment
	case "processing-instruction()":
		return kind == api.Pi
	case "processing-instruction('b')":
		return kind == api.Pi && name.Local == "b"
	case "*":
		return named
	case "p:*":
		return named && name.Uri == "u"
	case "p:a":
		return named && name.Uri == "u" && name.Local == "a"
	}
	return named && name.Uri == "" && name.Local == s.test
}

// matches asks from a node upward: are its name, its parent's, and so on, the path's, from the last one on?
func (a alternative) matches(t *xdm.Tree, n int) bool {
	last := len(a.steps) - 1
	if last < 0 {
		return n == 0
	}
	if !a.steps[last].takes(t, n) {
		return false
	}
	if last == 0 && !a.top {
		return true
	}
	rest := alternative{a.top, a.far[:last], a.steps[:last]}
	for up := t.Parent(n); up >= 0; up = t.Parent(up) {
		if rest.matches(t, up) {
			return true
		}
		if !a.far[last] {
			break
		}
	}
	return false
}

func TestPathsOfNames(t *testing.T) { // P9.3 (E2), and paths of any tests without predicates
	chance := maker{rand.New(rand.NewSource(9))}
	found := 0
	for range 400 {
		x := chance.tree(t)
		for range 20 {
			a := chance.alternative(false)
			p := compile(t, a.String())
			for n := range x.Len() {
				got, want := p.Matches(x, n, nil, nil), a.matches(x, n)
				if got != want {
					t.Fatalf("%s at %d: %v, of %v", a, n, got, x.Nodes())
				}
				if got {
					found++
				}
			}
		}
	}
	if found < 1000 {
		t.Error("too few match", found)
	}
}

func TestEachNodesOwnPath(t *testing.T) { // P9.3: the names from the root on, and each part of them at their end
	x := parse(t, sample)
	qname := func(n int) string {
		name := x.Name(n)
		s := name.Local
		if name.Prefix != "" {
			s = name.Prefix + ":" + s
		}
		if x.Kind(n) == api.Attr {
			return "@" + s
		}
		return s
	}
	for n := range x.Len() {
		if kind := x.Kind(n); kind != api.Element && kind != api.Attr {
			continue
		}
		var names []string
		for up := n; up > 0; up = x.Parent(up) {
			names = slices.Insert(names, 0, qname(up))
			s := strings.Join(names, "/")
			wrong := strings.Join(slices.Concat([]string{"z"}, names[1:]), "/")
			whole := up == 2
			for pattern, want := range map[string]bool{s: true, "//" + s: true, "/" + s: whole, wrong: false, "z/" + s: false, "*/" + s: !whole, s + "/z": false, s + "/@z": false} {
				if got := compile(t, pattern).Matches(x, n, nil, nil); got != want {
					t.Errorf("%s at %d: %v, want %v", pattern, n, got, want)
				}
			}
		}
	}
}

// told are the paths that match by the chapter's words: asked at the node, and at each node above it.
func told(t testing.TB, x *xdm.Tree, n int, l []alternative, names []string, values []api.Value) []int {
	var which []int
	for i, a := range l {
		for at := n; at >= 0; at = x.Parent(at) {
			v, fault := xeval.Eval(x, a.String(), xeval.Context{Node: at, Place: 1, Size: 1, Names: names, Values: values, Steps: api.MaxSteps}, known)
			if fault == api.ErrWord || fault == api.ErrPrefix {
				t.Fatal(a, fault)
			}
			if fault == api.OK && slices.Contains(v.Nodes, n) {
				which = append(which, i)
				break
			}
		}
	}
	return which
}

func TestMeaning(t *testing.T) { // P9.1 (E2): all of it, with predicates, variables and errors
	chance := maker{rand.New(rand.NewSource(10))}
	found := 0
	for range 500 {
		x := chance.tree(t)
		var l []alternative
		var texts []string
		for range 1 + chance.Intn(4) {
			a := chance.alternative(true)
			l = append(l, a)
			texts = append(texts, a.String())
		}
		names := []string{"v", "w", "v"}
		values := []api.Value{{Kind: api.Numbers, Num: xnum.Int(chance.Intn(3))}, {Kind: api.Strings, Text: chance.pick("", "1", "2")}, {Kind: api.Bools, Bool: true}}
		p := compile(t, strings.Join(texts, "|"))
		if p.Len() != len(l) {
			t.Fatal(texts, p.Len())
		}
		for n := range x.Len() {
			got, want := p.Which(x, n, names, values), told(t, x, n, l, names, values)
			if !slices.Equal(got, want) || p.Matches(x, n, names, values) != (len(want) > 0) {
				t.Fatalf("%q at %d: %v, want %v", texts, n, got, want)
			}
			found += len(got)
		}
	}
	if found < 1000 {
		t.Error("too few match", found)
	}
}

func TestUnions(t *testing.T) { // P9.1: a union matches what one of its paths does
	chance := maker{rand.New(rand.NewSource(11))}
	for range 200 {
		x := chance.tree(t)
		a, b, c := chance.alternative(true).String(), chance.alternative(true).String(), chance.alternative(true).String()
		pa, pb, pc := compile(t, a), compile(t, b), compile(t, c)
		all := compile(t, a+"|"+b+"|"+c)
		for _, s := range []string{"(" + a + "|" + b + ")|" + c, a + "|(" + b + "|" + c + ")"} {
			other := compile(t, s)
			for i := range 3 {
				if other.Priority(i) != all.Priority(i) || other.Len() != 3 {
					t.Error(s, i)
				}
			}
			for n := range x.Len() {
				if !reflect.DeepEqual(other.Which(x, n, nil, nil), all.Which(x, n, nil, nil)) {
					t.Error(s, n)
				}
			}
		}
		for n := range x.Len() {
			var want []int
			for i, one := range []*xpattern.Pattern{pa, pb, pc} {
				if one.Matches(x, n, nil, nil) {
					want = append(want, i)
				}
			}
			if got := all.Which(x, n, nil, nil); !slices.Equal(got, want) {
				t.Error(a, b, c, n, got, want)
			}
		}
	}
}

func TestOddTexts(t *testing.T) { // P1: texts of any bytes, and parts of patterns one behind the other
	x := parse(t, sample)
	chance := maker{rand.New(rand.NewSource(12))}
	right := 0
	for range 20000 {
		s := ""
		for range chance.Intn(8) {
			s += chance.pick("a", "b", "/", "//", "|", "@", "*", "(", ")", "[", "]", "1", "p:", "::", "child", "descendant-or-self", "node()", "text()", ".", "..", "$v", "'x'", "-", " ", "=", "not(", "\xff", "\x00", "é", ",")
		}
		p, fault := xpattern.Compile(s, known)
		if (p != nil) != (fault == api.OK) {
			t.Fatalf("%q: %v, %d", s, p, fault)
		}
		if fault != api.OK {
			if p.Len() != 0 || p.Matches(x, 1, nil, nil) {
				t.Fatalf("%q", s)
			}
			continue
		}
		right++
		if p.Len() == 0 {
			t.Fatalf("%q: no path", s)
		}
		for n := -1; n <= x.Len(); n++ {
			p.Which(x, n, nil, nil)
		}
	}
	if right < 300 {
		t.Error("too few are patterns", right)
	}
}
