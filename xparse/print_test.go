package xparse_test

import (
	"slices"
	"strings"
	"testing"

	"stencil/api"
	"stencil/xparse"
)

func wantPrint(t *testing.T, e api.Expr, want string) {
	t.Helper()
	got, fault := xparse.Print(e)
	if got != want || fault != api.OK {
		t.Errorf("Print(%s) = %q, %d, want %q", show(e), got, fault, want)
		return
	}
	wantExpr(t, got, e)
}

func TestPrint(t *testing.T) { // P6.1, P6.3
	a, b, c := child("a"), child("b"), child("c")
	stepB := step(api.Child, api.OneName, "b")
	for want, e := range map[string]api.Expr{
		"0":                   num(0),
		"12":                  num(12),
		"1.5":                 {Op: api.Number, Num: api.Num{V: 1500000}},
		"0.000001":            {Op: api.Number, Num: api.Num{V: 1}},
		"1000000000000":       {Op: api.Number, Num: api.Num{V: api.MaxNum}},
		"999999999999.999999": {Op: api.Number, Num: api.Num{V: api.MaxNum - 1}},
		`""`:                  str(""),
		`"it's"`:              str("it's"),
		`'"'`:                 str(`"`),
		"\" \n\"":             str(" \n"),
		"$x":                  variable("x"),
		"$p:x":                variable("p:x"),
		"f()":                 call("f"),
		"p:f(1)":              call("p:f", num(1)),
		`f($x, "a", 1 or 2)`:  call("f", variable("x"), str("a"), op(api.Or, num(1), num(2))),
		"f(/, /)":             call("f", top(), top()),
		"div(/)":              call("div", top()),

		"/":                                                     top(),
		"child::a":                                              a,
		"/child::a/attribute::b":                                top(step(api.Child, api.OneName, "a"), step(api.Attribute, api.OneName, "b")),
		"self::node()/parent::node()":                           here(step(api.Self, api.AnyNode, ""), step(api.Parent, api.AnyNode, "")),
		"/descendant-or-self::node()/child::p:a":                top(step(api.DescendantOrSelf, api.AnyNode, ""), step(api.Child, api.OneName, "p:a")),
		"following::*/preceding::p:*":                           here(step(api.Following, api.AnyName, ""), step(api.Preceding, api.AnyLocal, "p")),
		"child::text()/child::comment()":                        here(step(api.Child, api.AnyText, ""), step(api.Child, api.AnyComment, "")),
		"child::processing-instruction()":                       here(step(api.Child, api.AnyPi, "")),
		`child::processing-instruction("x y")`:                  here(step(api.Child, api.AnyPi, "x y")),
		`self::processing-instruction('"')[1]`:                  here(step(api.Self, api.AnyPi, `"`, num(1))),
		"child::div[1][child::mod = 2]/child::text[/]":          here(step(api.Child, api.OneName, "div", num(1), op(api.Eq, child("mod"), num(2))), step(api.Child, api.OneName, "text", top())),
		"child::a[child::b or child::c]":                        here(step(api.Child, api.OneName, "a", op(api.Or, b, c))),
		"self::node()[1]":                                       here(step(api.Self, api.AnyNode, "", num(1))),
		"child::and and child::or or child::mod mod child::div": op(api.Or, op(api.And, child("and"), child("or")), op(api.Mod, child("mod"), child("div"))),

		"1[2]":                            op(api.Filter, num(1), num(2)),
		`"a"[2]`:                          op(api.Filter, str("a"), num(2)),
		"$x[1][2]":                        op(api.Filter, variable("x"), num(1), num(2)),
		"f()[1]":                          op(api.Filter, call("f"), num(1)),
		"(child::a)[1]":                   op(api.Filter, a, num(1)),
		"(/)[1]":                          op(api.Filter, top(), num(1)),
		"($x/child::b)[1]":                op(api.Filter, op(api.Path, variable("x"), stepB), num(1)),
		"(-1)[2]":                         op(api.Filter, op(api.Neg, num(1)), num(2)),
		"(1 + 2)[/]":                      op(api.Filter, op(api.Add, num(1), num(2)), top()),
		"(child::a | child::b)[child::c]": op(api.Filter, op(api.Union, a, b), c),

		"1/child::b":                        op(api.Path, num(1), stepB),
		`"a"/child::b`:                      op(api.Path, str("a"), stepB),
		"$x/child::b/child::b":              op(api.Path, variable("x"), stepB, stepB),
		"f(1)/child::b":                     op(api.Path, call("f", num(1)), stepB),
		"$x[1]/child::b":                    op(api.Path, op(api.Filter, variable("x"), num(1)), stepB),
		"(child::a)[1]/child::b":            op(api.Path, op(api.Filter, a, num(1)), stepB),
		"(child::a)/child::b":               op(api.Path, a, stepB),
		"(/)/child::b":                      op(api.Path, top(), stepB),
		"(($x/child::b)/child::b)/child::b": op(api.Path, op(api.Path, op(api.Path, variable("x"), stepB), stepB), stepB),
		"(1 = 2)/child::b":                  op(api.Path, op(api.Eq, num(1), num(2)), stepB),
		"(-1)/child::b":                     op(api.Path, op(api.Neg, num(1)), stepB),

		"-1":                                  op(api.Neg, num(1)),
		"--child::a":                          op(api.Neg, op(api.Neg, a)),
		"-(/)":                                op(api.Neg, top()),
		"--(/)":                               op(api.Neg, op(api.Neg, top())),
		"-/child::a":                          op(api.Neg, top(step(api.Child, api.OneName, "a"))),
		"-child::a | child::b":                op(api.Neg, op(api.Union, a, b)),
		"(-child::a) | child::b":              op(api.Union, op(api.Neg, a), b),
		"-(1 * 2)":                            op(api.Neg, op(api.Mul, num(1), num(2))),
		"-1 * -2":                             op(api.Mul, op(api.Neg, num(1)), op(api.Neg, num(2))),
		"1 - -1":                              op(api.Sub, num(1), op(api.Neg, num(1))),
		"-$x[1]":                              op(api.Neg, op(api.Filter, variable("x"), num(1))),
		"(/) * 5":                             op(api.Mul, top(), num(5)),
		"5 * (/)":                             op(api.Mul, num(5), top()),
		"(/) | (/)":                           op(api.Union, top(), top()),
		"(/) or (/)":                          op(api.Or, top(), top()),
		"/child::a * 5":                       op(api.Mul, top(step(api.Child, api.OneName, "a")), num(5)),
		"(child::a or child::b) and child::c": op(api.And, op(api.Or, a, b), c),
	} {
		wantPrint(t, e, want)
	}
}

func TestPrintOperators(t *testing.T) { // P6.1, P6.3: each operator as the left and the right Kid of each other one
	levels := map[api.Op]int{api.Or: 1, api.And: 2, api.Eq: 3, api.Ne: 3, api.Lt: 4, api.Le: 4, api.Gt: 4, api.Ge: 4, api.Add: 5, api.Sub: 5, api.Mul: 6, api.Div: 6, api.Mod: 6, api.Neg: 7, api.Union: 8}
	signs := map[api.Op]string{api.Or: "or", api.And: "and", api.Eq: "=", api.Ne: "!=", api.Lt: "<", api.Le: "<=", api.Gt: ">", api.Ge: ">=", api.Add: "+", api.Sub: "-", api.Mul: "*", api.Div: "div", api.Mod: "mod", api.Union: "|"}
	plain := func(o api.Op) (api.Expr, string) {
		if o == api.Neg {
			return op(o, variable("x")), "-$x"
		}
		return op(o, variable("x"), num(2)), "$x " + signs[o] + " 2"
	}
	wrap := func(s string, must bool) string {
		if must {
			return "(" + s + ")"
		}
		return s
	}
	for outer, level := range levels {
		for inner, within := range levels {
			kid, text := plain(inner)
			if outer == api.Neg {
				wantPrint(t, op(outer, kid), "-"+wrap(text, within < level))
				continue
			}
			other, words := plain(outer)
			wantPrint(t, op(outer, kid, num(3)), wrap(text, within < level)+" "+signs[outer]+" 3")
			wantPrint(t, op(outer, num(3), kid), "3 "+signs[outer]+" "+wrap(text, within <= level))
			wantPrint(t, op(outer, kid, kid), wrap(text, within < level)+" "+signs[outer]+" "+wrap(text, within <= level))
			wantPrint(t, op(api.Filter, other, kid), "("+words+")["+text+"]")
		}
	}
}

func TestPrintFaults(t *testing.T) { // P6.1: ErrWord ahead of ErrLimit
	long := strings.Repeat("a", api.MaxExpr)
	for _, c := range []struct {
		e    api.Expr
		want api.Errno
	}{
		{api.Expr{}, api.ErrWord},
		{api.Expr{Op: api.Top}, api.ErrWord},
		{step(api.Child, api.AnyName, ""), api.ErrWord},
		{op(api.Or, num(1)), api.ErrWord},
		{str(`"'`), api.ErrWord},
		{op(api.Add, str(long), str(`"'`)), api.ErrWord},
		{str(long), api.ErrLimit},
		{str(long[:api.MaxExpr-1]), api.ErrLimit},
		{str(long[:api.MaxExpr-2]), api.OK},
		{variable(long), api.ErrLimit},
		{variable(long[1:]), api.OK},
		{call(long), api.ErrLimit},
		{call(long[2:]), api.OK},
		{child(long), api.ErrLimit},
		{child(long[6:]), api.ErrLimit},
		{child(long[7:]), api.OK},
	} {
		s, fault := xparse.Print(c.e)
		if fault != c.want || (s == "") != (c.want != api.OK) || fault == api.OK && len(s) != api.MaxExpr {
			t.Errorf("Print(%.80s) = %.80q, %d, want %d", show(c.e), s, fault, c.want)
		}
	}
	// As many expressions as may be, of texts that are too long.
	if s, fault := xparse.Print(call("f", slices.Repeat([]api.Expr{num(1)}, api.MaxTokens-1)...)); s != "" || fault != api.ErrLimit {
		t.Error(len(s), fault)
	}
	if s, fault := xparse.Print(call("f", slices.Repeat([]api.Expr{num(1)}, api.MaxTokens)...)); s != "" || fault != api.ErrWord {
		t.Error(len(s), fault)
	}
	// What is parsed may be printed as a text that is too long for Parse.
	e, fault := xparse.Parse(strings.Repeat("a/", 100) + "a")
	if s, late := xparse.Print(e); fault != api.OK || s != "" || late != api.ErrLimit {
		t.Error(fault, len(s), late)
	}
}
