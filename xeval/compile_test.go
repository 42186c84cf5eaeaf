package xeval_test

import (
	"fmt"
	"strings"
	"testing"

	"stencil/api"
	"stencil/xeval"
	"stencil/xparse"
)

func expression(t testing.TB, s string) api.Expr {
	t.Helper()
	e, fault := xparse.Parse(s)
	if fault != api.OK {
		t.Fatal(s, fault)
	}
	return e
}

func compile(t testing.TB, s string, scope xeval.Scope) *xeval.Code {
	t.Helper()
	c, fault := xeval.Compile(expression(t, s), scope)
	if fault != api.OK || c == nil {
		t.Fatal(s, fault)
	}
	return c
}

// known is a scope in which p and q stand for something, and n for nothing; the first of a name counts.
var known = xeval.Scope{{Name: "p", Value: "u"}, {Name: "n", Value: ""}, {Name: "q", Value: "v"}, {Name: "p", Value: "w"}, {Name: "n", Value: "w"}, {Name: "", Value: "d"}, {Name: "xml", Value: "x"}}

func TestCompileFaults(t *testing.T) { // P8.1
	for s, want := range map[string]api.Errno{
		"p:a": api.OK, "q:*": api.OK, "@p:a": api.OK, "xml:a": api.OK, "@xml:*": api.OK, "a": api.OK, "$o:v": api.OK, "$v": api.OK,
		"o:a": api.ErrPrefix, "o:*": api.ErrPrefix, "@o:a": api.ErrPrefix, "n:a": api.ErrPrefix, "n:*": api.ErrPrefix, "xmlns:a": api.ErrPrefix, "P:a": api.ErrPrefix,
		"o:f()": api.ErrPrefix, "n:f()": api.ErrPrefix, "p:f()": api.ErrName, "xml:f()": api.ErrName, "p:true()": api.ErrName, "p:lang()": api.ErrName, "o:not()": api.ErrPrefix,
		"f()": api.ErrName, "True()": api.ErrName, "id('x')": api.ErrName, "key('a', 'b')": api.ErrName, "current()": api.ErrName,
		"last()": api.OK, "position()": api.OK, "lang('x')": api.OK, "last(1)": api.ErrCount, "position(1)": api.ErrCount, "lang()": api.ErrCount, "lang(1, 2)": api.ErrCount,
		"true(1)": api.ErrCount, "not()": api.ErrCount, "not(1, 2)": api.ErrCount, "concat(1)": api.ErrCount, "concat(1, 2, 3, 4, 5, 6, 7, 8)": api.OK, "concat(1, 2, 3, 4, 5, 6, 7, 8, 9)": api.ErrCount,
		"number()": api.OK, "string()": api.OK, "string-length()": api.OK, "normalize-space()": api.OK, "name()": api.OK, "local-name()": api.OK, "namespace-uri()": api.OK,
		"number(1, 2)": api.ErrCount, "name(a, b)": api.ErrCount, "count()": api.ErrCount, "sum()": api.ErrCount, "floor()": api.ErrCount, "boolean()": api.ErrCount, "substring(1)": api.ErrCount, "substring(1, 2, 3, 4)": api.ErrCount, "translate(1, 2)": api.ErrCount, "format-number(1)": api.ErrCount,
		// What is known ahead of a run is no more than names and numbers of arguments.
		"count(1)": api.OK, "1 | 2": api.OK, "1/a": api.OK, "'x'[1]": api.OK, "format-number(1, '')": api.OK,
		// The first one, as it is printed.
		"o:a + f()": api.ErrPrefix, "f() + o:a": api.ErrName, "not() + f()": api.ErrCount, "f() + not()": api.ErrName, "not() = o:a": api.ErrCount, "o:a | not()": api.ErrPrefix,
		"f(o:a)": api.ErrName, "not(o:a, 1)": api.ErrCount, "not(f(), 1)": api.ErrCount, "not(f())": api.ErrName, "not(o:a)": api.ErrPrefix, "concat(a, o:a, f())": api.ErrPrefix, "concat(a, f(), o:a)": api.ErrName,
		"a[f()]/o:a": api.ErrName, "a/o:a[f()]": api.ErrPrefix, "o:a[f()]": api.ErrPrefix, "a[o:a][f()]": api.ErrPrefix, "a[not()][o:a]": api.ErrCount, "(f())[o:a]": api.ErrName, "(a)[o:a][f()]": api.ErrPrefix, "f()/o:a": api.ErrName, "true(f())": api.ErrCount,
		"- f()": api.ErrName, "(1 or f()) and o:a": api.ErrName, "0 and f()": api.ErrName, "1 or o:a": api.ErrPrefix,
	} {
		c, e := xeval.Compile(expression(t, s), known)
		if e != want || (c != nil) != (want == api.OK) {
			t.Errorf("%s: %d, %v, want %d", s, e, c, want)
		}
	}
}

func TestCompileWhatIsNotRight(t *testing.T) { // P8.1: ErrWord ahead of all others
	self := []api.Expr{{}}
	self[0] = api.Expr{Op: api.Neg, Kids: self}
	for _, e := range []api.Expr{
		{}, {Op: api.Top}, {Op: api.Step}, {Op: -1}, {Op: 99}, {Op: api.Add}, {Op: api.Neg}, {Op: api.Or, Kids: []api.Expr{{Op: api.Number}}}, {Op: api.Path}, {Op: api.Filter}, {Op: api.Call}, {Op: api.Call, Text: "text"},
		{Op: api.Variable, Text: "a b"}, {Op: api.Number, Num: api.Num{V: -1}}, {Op: api.Path, Kids: []api.Expr{{}, {Op: api.Step, Axis: 12}}}, {Op: api.Path, Kids: []api.Expr{{}, {Op: api.Step, Test: 7}}}, {Op: api.Neg, Kids: self},
		{Op: api.Add, Kids: []api.Expr{{Op: api.Call, Text: "f"}, {}}},
	} {
		if c, fault := xeval.Compile(e, known); c != nil || fault != api.ErrWord {
			t.Errorf("%v: %v, %d", e.Op, c, fault)
		}
	}
}

func TestPrefixes(t *testing.T) { // P8.1: what prefixes stand for
	x := parse(t, "<a xmlns:p='u' xmlns:r='v' xml:x='1'><p:b/><r:b/><b/><c xmlns='d'/><c/><b xmlns='u'/></a>")
	// root 0, a 1, xml:x 2, p:b 3, r:b 4, b 5, {d}c 6, c 7, {u}b 8
	for s, want := range map[string]string{
		"//p:b": "3 8", "//q:b": "4", "//b": "5", "//c": "7", "//p:*": "3 8", "//q:*": "4", "//*": "1 3 4 5 6 7 8", "//@xml:x": "2", "//@xml:*": "2", "//@x": "", "//@p:*": "", "//p:c": "", "//xml:x": "", "//@*": "2",
	} {
		v, _, e := compile(t, s, known).Run(x, xeval.Context{Place: 1, Size: 1, Steps: 1000})
		if got := strings.Trim(fmt.Sprint(v.Nodes), "[]"); e != api.OK || v.Kind != api.Nodes || got != want {
			t.Errorf("%s: %s, %d, want %s", s, got, e, want)
		}
	}
}

func TestCompileKeepsNothing(t *testing.T) { // P3
	x := parse(t, "<a xmlns:p='u'><p:b/><b>2</b></a>")
	e := expression(t, "count(//p:b[. = '' and not($v)] | //b)")
	scope := xeval.Scope{{Name: "p", Value: "u"}}
	c, fault := xeval.Compile(e, scope)
	if fault != api.OK {
		t.Fatal(fault)
	}
	if !xparse.Same(e, expression(t, "count(//p:b[. = '' and not($v)] | //b)")) || scope[0] != (api.Pair{Name: "p", Value: "u"}) {
		t.Error("what is handed in has changed")
	}
	at := xeval.Context{Place: 1, Size: 1, Steps: 1000, Names: []string{"v"}, Values: make([]api.Value, 1)}
	first, steps, fault := c.Run(x, at)
	if fault != api.OK || first.Num != (api.Num{V: 2 * api.Places}) {
		t.Fatal(first, fault)
	}
	spoil(&e)
	scope[0] = api.Pair{Name: "z", Value: "z"}
	if v, again, fault := c.Run(x, at); fault != api.OK || v.Num != first.Num || again != steps {
		t.Error(v, again, fault)
	}
}

func spoil(e *api.Expr) {
	for i := range e.Kids {
		spoil(&e.Kids[i])
	}
	for i := range e.Kids {
		e.Kids[i] = api.Expr{Op: api.Number, Num: api.Num{V: 7}}
	}
}
