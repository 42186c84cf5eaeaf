package xparse_test

import (
	"fmt"
	"strings"
	"testing"

	"stencil/api"
	"stencil/xparse"
	"stencil/xplex"
)

// Expressions by hand.

func num(n int64) api.Expr       { return api.Expr{Op: api.Number, Num: api.Num{V: n * api.Places}} }
func str(s string) api.Expr      { return api.Expr{Op: api.String, Text: s} }
func variable(s string) api.Expr { return api.Expr{Op: api.Variable, Text: s} }

func op(op api.Op, kids ...api.Expr) api.Expr { return api.Expr{Op: op, Kids: kids} }

func call(name string, kids ...api.Expr) api.Expr {
	return api.Expr{Op: api.Call, Text: name, Kids: kids}
}

func step(axis api.Axis, test api.Test, text string, kids ...api.Expr) api.Expr {
	return api.Expr{Op: api.Step, Axis: axis, Test: test, Text: text, Kids: kids}
}

// here and top are paths from the context's node, and from the root.
func here(steps ...api.Expr) api.Expr { return op(api.Path, append([]api.Expr{{}}, steps...)...) }
func top(steps ...api.Expr) api.Expr {
	return op(api.Path, append([]api.Expr{{Op: api.Top}}, steps...)...)
}
func child(name string) api.Expr { return here(step(api.Child, api.OneName, name)) }

// show is an expression as its parts say it, field by field.
func show(e api.Expr) string {
	ops := strings.Split("NoOp Or And Eq Ne Lt Le Gt Ge Add Sub Mul Div Mod Neg Union Number String Variable Call Filter Path Top Step", " ")
	s := fmt.Sprint(e.Op)
	if e.Op >= 0 && int(e.Op) < len(ops) {
		s = ops[e.Op]
	}
	if e.Text != "" {
		s += fmt.Sprintf(" %q", e.Text)
	}
	if e.Op == api.Number || e.Num != (api.Num{}) {
		s += fmt.Sprint(" ", e.Num)
	}
	if e.Op == api.Step || e.Axis != 0 || e.Test != 0 {
		s += fmt.Sprintf(" %d.%d", e.Axis, e.Test)
	}
	if len(e.Kids) > 0 {
		var kids []string
		for _, k := range e.Kids {
			kids = append(kids, show(k))
		}
		s += "(" + strings.Join(kids, ", ") + ")"
	}
	return s
}

func wantExpr(t *testing.T, s string, want api.Expr) {
	t.Helper()
	e, fault := xparse.Parse(s)
	if fault != api.OK || show(e) != show(want) {
		t.Errorf("Parse(%q) = %s, %d, want %s", s, show(e), fault, show(want))
	}
}

func wantFault(t *testing.T, s string, want api.Errno) {
	t.Helper()
	if e, fault := xparse.Parse(s); fault != want || show(e) != "NoOp" {
		t.Errorf("Parse(%.80q) = %s, %d, want %d", s, show(e), fault, want)
	}
}

func TestParseExamples(t *testing.T) { // P6.1: the chapter's examples
	wantExpr(t, "a/@b", here(step(api.Child, api.OneName, "a"), step(api.Attribute, api.OneName, "b")))
	wantExpr(t, "- -1 - 2", op(api.Sub, op(api.Neg, op(api.Neg, num(1))), num(2)))
	wantExpr(t, "1 = 2 = 3", op(api.Eq, op(api.Eq, num(1), num(2)), num(3)))
}

func TestParsePrimaries(t *testing.T) { // P6.1: what may be filtered
	half := api.Expr{Op: api.Number, Num: api.Num{V: api.Places / 2}}
	for s, want := range map[string]api.Expr{
		"0": num(0), "1": num(1), "007": num(7), "1.0": num(1), "0.5": half, ".5": half, "0.5000009": half, "0.0000009": num(0),
		"1000000000000": num(1000000000000), "1000000000000.0000009": num(1000000000000), "999999999999.999999": {Op: api.Number, Num: api.Num{V: api.MaxNum - 1}},
		"'a'": str("a"), `"a'b"`: str("a'b"), `'a"b'`: str(`a"b`), "''": str(""), "'('": str("("), "' é\n'": str(" é\n"),
		"$a": variable("a"), "$p:a": variable("p:a"), "$and": variable("and"),
		"f()": call("f"), "f ( )": call("f"), "p:f(1)": call("p:f", num(1)), "f(1,2,3)": call("f", num(1), num(2), num(3)), "and(1)": call("and", num(1)),
		"f(1 or 2, g())": call("f", op(api.Or, num(1), num(2)), call("g")), "f(/)": call("f", top()), "f(/,/)": call("f", top(), top()), "p:text()": call("p:text"),
		"(1)": num(1), "((1))": num(1), "( a )": child("a"), "(/)": top(), "((f()))": call("f"),
		"1[2]": op(api.Filter, num(1), num(2)), "'a'['b']": op(api.Filter, str("a"), str("b")), "$a[1][2]": op(api.Filter, variable("a"), num(1), num(2)),
		"f()[1]": op(api.Filter, call("f"), num(1)), "(a)[1]": op(api.Filter, child("a"), num(1)), "(/)[1]": op(api.Filter, top(), num(1)),
		"(1 + 2)[3]": op(api.Filter, op(api.Add, num(1), num(2)), num(3)), "(-1)[2]": op(api.Filter, op(api.Neg, num(1)), num(2)), "-1[2]": op(api.Neg, op(api.Filter, num(1), num(2))),
		"(a[1])[2]":         op(api.Filter, here(step(api.Child, api.OneName, "a", num(1))), num(2)),
		"($a[1])[2]":        op(api.Filter, variable("a"), num(1), num(2)),
		"((($a)[1])[2])[3]": op(api.Filter, variable("a"), num(1), num(2), num(3)),
		"(($a[1]))":         op(api.Filter, variable("a"), num(1)),
		"($a[1]/b)[2]":      op(api.Filter, op(api.Path, op(api.Filter, variable("a"), num(1)), step(api.Child, api.OneName, "b")), num(2)),
		"$a[$b[1]]":         op(api.Filter, variable("a"), op(api.Filter, variable("b"), num(1))),
	} {
		wantExpr(t, s, want)
	}
}

func TestParsePaths(t *testing.T) { // P6.1: /, //, steps, paths behind a filter
	a, b := step(api.Child, api.OneName, "a"), step(api.Child, api.OneName, "b")
	below, self, parent := step(api.DescendantOrSelf, api.AnyNode, ""), step(api.Self, api.AnyNode, ""), step(api.Parent, api.AnyNode, "")
	for s, want := range map[string]api.Expr{
		"/": top(), "/a": top(a), "/a/b": top(a, b), "//a": top(below, a), "//a//b": top(below, a, below, b), "/ a": top(a), "/a//b": top(a, below, b),
		"a": here(a), "a/b": here(a, b), "a//b": here(a, below, b), "a / b": here(a, b), "a//b/a": here(a, below, b, a),
		".": here(self), "..": here(parent), "./a": here(self, a), "../..": here(parent, parent), ".//a": here(self, below, a), "/.": top(self), "/..": top(parent), "//.": top(below, self),
		"*": here(step(api.Child, api.AnyName, "")), "p:*": here(step(api.Child, api.AnyLocal, "p")), "p:a": here(step(api.Child, api.OneName, "p:a")), "/*": top(step(api.Child, api.AnyName, "")),
		"@a": here(step(api.Attribute, api.OneName, "a")), "@*": here(step(api.Attribute, api.AnyName, "")), "@p:*": here(step(api.Attribute, api.AnyLocal, "p")), "@text()": here(step(api.Attribute, api.AnyText, "")),
		"/@a": top(step(api.Attribute, api.OneName, "a")), "//@a": top(below, step(api.Attribute, api.OneName, "a")),
		"text()": here(step(api.Child, api.AnyText, "")), "comment()": here(step(api.Child, api.AnyComment, "")), "node()": here(step(api.Child, api.AnyNode, "")),
		"processing-instruction()": here(step(api.Child, api.AnyPi, "")), "processing-instruction('x y')": here(step(api.Child, api.AnyPi, "x y")),
		"processing-instruction('')": here(step(api.Child, api.AnyPi, "")), `processing-instruction("'")`: here(step(api.Child, api.AnyPi, "'")),
		"text": here(step(api.Child, api.OneName, "text")), "div/mod": here(step(api.Child, api.OneName, "div"), step(api.Child, api.OneName, "mod")),
		"a[1]": here(step(api.Child, api.OneName, "a", num(1))), "a[1][b]": here(step(api.Child, api.OneName, "a", num(1), here(b))), "a[1]/b[2]": here(step(api.Child, api.OneName, "a", num(1)), step(api.Child, api.OneName, "b", num(2))),
		"a[/]": here(step(api.Child, api.OneName, "a", top())), "*[1 or 2]": here(step(api.Child, api.AnyName, "", op(api.Or, num(1), num(2)))), "text()[1]": here(step(api.Child, api.AnyText, "", num(1))),
		"self::node()[1]": here(step(api.Self, api.AnyNode, "", num(1))),
		"$a/b":            op(api.Path, variable("a"), b), "$a//b": op(api.Path, variable("a"), below, b), "f()/b/a": op(api.Path, call("f"), b, a), "1/b": op(api.Path, num(1), b), "'x'//b": op(api.Path, str("x"), below, b),
		"(a)/b": op(api.Path, here(a), b), "(a/b)/b": op(api.Path, here(a, b), b), "((a)/b)/a": op(api.Path, op(api.Path, here(a), b), a), "(/)/b": op(api.Path, top(), b), "(a)//b": op(api.Path, here(a), below, b),
		"$a[1]/b": op(api.Path, op(api.Filter, variable("a"), num(1)), b), "($a[1])/b": op(api.Path, op(api.Filter, variable("a"), num(1)), b), "(a)[1]//b": op(api.Path, op(api.Filter, here(a), num(1)), below, b),
		"(1 + 2)/.": op(api.Path, op(api.Add, num(1), num(2)), self), "(a|b)/@*": op(api.Path, op(api.Union, here(a), here(b)), step(api.Attribute, api.AnyName, "")), "$a/..": op(api.Path, variable("a"), parent),
		"/ | a": op(api.Union, top(), here(a)), "a | /": op(api.Union, here(a), top()), "/ = /": op(api.Eq, top(), top()), "/ + 1": op(api.Add, top(), num(1)), "-/": op(api.Neg, top()),
		"1 - /": op(api.Sub, num(1), top()), "/ < a": op(api.Lt, top(), here(a)), "/ - a": op(api.Sub, top(), here(a)), "(/) * 5": op(api.Mul, top(), num(5)), "(/) and 1": op(api.And, top(), num(1)),
	} {
		wantExpr(t, s, want)
	}
}

func TestParseAxes(t *testing.T) { // P6.1: axes by their names
	names := strings.Split("child descendant parent ancestor following-sibling preceding-sibling following preceding attribute self descendant-or-self ancestor-or-self", " ")
	for i, name := range names {
		axis := api.Axis(i)
		wantExpr(t, name+"::a", here(step(axis, api.OneName, "a")))
		wantExpr(t, name+" :: *[1]", here(step(axis, api.AnyName, "", num(1))))
		wantExpr(t, "/"+name+"::p:*/"+name+"::node()", top(step(axis, api.AnyLocal, "p"), step(axis, api.AnyNode, "")))
		wantExpr(t, name, child(name))
		if got, e := xparse.Print(here(step(axis, api.AnyText, ""))); got != name+"::text()" || e != api.OK {
			t.Error(name, got, e)
		}
	}
	for _, name := range []string{"axis", "namespace", "Child", "childs", "following_sibling", "text", "and", "p"} {
		wantFault(t, name+"::a", api.ErrWord)
	}
}

func TestParseOperators(t *testing.T) { // P6.1: which are stronger, and that they go to the left
	a, b, c := child("a"), child("b"), child("c")
	for s, want := range map[string]api.Expr{
		"a or b and c": op(api.Or, a, op(api.And, b, c)), "a and b or c": op(api.Or, op(api.And, a, b), c), "a or b or c": op(api.Or, op(api.Or, a, b), c),
		"a and b = c": op(api.And, a, op(api.Eq, b, c)), "a = b < c": op(api.Eq, a, op(api.Lt, b, c)), "a != b = c": op(api.Eq, op(api.Ne, a, b), c),
		"a < b <= c": op(api.Le, op(api.Lt, a, b), c), "a > b >= c": op(api.Ge, op(api.Gt, a, b), c), "a < b + c": op(api.Lt, a, op(api.Add, b, c)),
		"a - b + c": op(api.Add, op(api.Sub, a, b), c), "a + b * c": op(api.Add, a, op(api.Mul, b, c)), "a * b div c": op(api.Div, op(api.Mul, a, b), c),
		"a mod b * c": op(api.Mul, op(api.Mod, a, b), c), "a div b - c": op(api.Sub, op(api.Div, a, b), c), "-a * b": op(api.Mul, op(api.Neg, a), b), "a * -b": op(api.Mul, a, op(api.Neg, b)),
		"-a|b": op(api.Neg, op(api.Union, a, b)), "a|b|c": op(api.Union, op(api.Union, a, b), c), "a|b * c": op(api.Mul, op(api.Union, a, b), c), "a - -b": op(api.Sub, a, op(api.Neg, b)),
		"a --b": op(api.Sub, a, op(api.Neg, b)), "---a": op(api.Neg, op(api.Neg, op(api.Neg, a))), "a or -b": op(api.Or, a, op(api.Neg, b)), "-a = -b": op(api.Eq, op(api.Neg, a), op(api.Neg, b)),
		"a or (b or c)": op(api.Or, a, op(api.Or, b, c)), "(a or b) and c": op(api.And, op(api.Or, a, b), c), "a - (b - c)": op(api.Sub, a, op(api.Sub, b, c)), "-(a - b)": op(api.Neg, op(api.Sub, a, b)),
		"(-a)|b": op(api.Union, op(api.Neg, a), b), "a|(b|c)": op(api.Union, a, op(api.Union, b, c)), "1|2": op(api.Union, num(1), num(2)), "a * * * b": op(api.Mul, op(api.Mul, a, here(step(api.Child, api.AnyName, ""))), b),
		"div div div": op(api.Div, child("div"), child("div")), "1*2": op(api.Mul, num(1), num(2)), "a-b": child("a-b"), "a -b": op(api.Sub, a, b),
	} {
		wantExpr(t, s, want)
	}
}

func TestParseFaults(t *testing.T) { // P6.1: what is no expression
	for _, s := range []string{
		"", " ", "1 +", "+ 1", "* *", "a *", "a or", "a or or or", "or or", "= 1", "1 = = 2", "1 <> 2", "1 < = 2", "a |", "| a", "a | | b", "-", "- -", "1 -", "a = -", "1 2", "'a' 'b'", "$a $b", "$a 1", "1 'x'",
		"(", ")", "()", "(1", "1)", "((1)", "(1))", ")(", "(1)(2)", "(1) 2", "[", "]", "[1]", "a[", "a[]", "a[1", "a]", "a[1]]", "a[[1]]", "a[1,2]", "a(", "(a]", "a[1)",
		"f(", "f(1", "f(,)", "f(1,)", "f(,1)", "f(1 2)", "f(1,,2)", "f()()", "f[1](2)", ",", "1,2", "(1,2)", "a,b",
		"axis::a", "child::", "child::child::a", "::a", "child::1", "child::$a", "child::(a)", "child::f()", "child::.", "child::@a", "@child::a", "@", "@@a", "@.", "@..", "@1", "@f()", "@(a)", "@$a", "p:child::a", "*::a", "attribute::@a",
		"//", "/ /", "///", "a/", "a//", "a///b", "/a/", "/ / a", "a/ /b", "//a//", "/ * 5", "/ 5", "/'a'", "/$a", "/(a)", "/f()", "a/1", "a/'x'", "a/$b", "a/(b)", "a/f()", "$a/$b", "$a/", "(a)/", "$a//", "/[1]", "//[1]",
		".[1]", "..[1]", ".a", "..a", ". .", "...", ". ..", "a/.[1]", "./[1]", "1.", "1..2", "1.2.3",
		"text(", "text(1)", "text('a')", "text(a)", "node('a')", "comment('a')", "text()()", "processing-instruction(", "processing-instruction(1)", "processing-instruction(a)", "processing-instruction('a', 'b')", "processing-instruction('a'", "processing-instruction($a)",
		"1000000000000.000001", "1000000000001", "9999999999999", strings.Repeat("9", 200), "a[9999999999999]", "f(1, 9999999999999)", "9999999999999 = 9999999999999", "-9999999999999",
		"a:* (1)", "*(1)", "$a::b", "$a(1)", "a b", "a!", "$", "'x", "!", "1 = 2 3",
	} {
		wantFault(t, s, api.ErrWord)
	}
}

func TestParseWhichError(t *testing.T) { // P6.1: Scan's error first, then ErrWord, then ErrLimit
	deep := strings.Repeat("(", api.MaxDeep+1) + "1" + strings.Repeat(")", api.MaxDeep+1)
	for s, want := range map[string]api.Errno{
		strings.Repeat(" ", api.MaxExpr+1):       api.ErrLimit,
		strings.Repeat("\xff", api.MaxExpr+1):    api.ErrLimit,
		strings.Repeat("+", api.MaxExpr+1):       api.ErrLimit,
		strings.Repeat(" ", api.MaxExpr-1) + "1": api.OK,
		"1 + \xff":                               api.ErrChar,
		"! \x00":                                 api.ErrChar,
		"+ '\x00'":                               api.ErrChar,
		deep + "\x00":                            api.ErrChar,
		deep:                                     api.ErrLimit,
		deep + "!":                               api.ErrWord,
		deep + ")":                               api.ErrWord,
		deep + " +":                              api.ErrWord,
		"(" + deep:                               api.ErrWord,
		deep + " + 9999999999999":                api.ErrWord,
		strings.Repeat("-", api.MaxDeep+1) + "1 +":                 api.ErrWord,
		strings.Repeat("-", api.MaxDeep+1):                         api.ErrWord,
		"f(" + strings.Repeat("a,", 200) + "a) +":                  api.ErrWord,
		"f(" + strings.Repeat("a,", 200) + ")":                     api.ErrWord,
		"f(" + strings.Repeat("a,", 200) + "a)":                    api.ErrLimit,
		strings.Repeat("(", api.MaxExpr):                           api.ErrWord,
		strings.Repeat("-", api.MaxExpr):                           api.ErrWord,
		strings.Repeat("-", api.MaxExpr-1) + "1":                   api.ErrLimit,
		strings.Repeat("(", 255) + "1" + strings.Repeat(")", 255):  api.ErrLimit,
		strings.Repeat("a[", 170) + "1" + strings.Repeat("]", 170): api.ErrLimit,
		strings.Repeat("a|", 255) + "a":                            api.ErrLimit,
	} {
		if e, fault := xparse.Parse(s); fault != want || want != api.OK && show(e) != "NoOp" {
			t.Errorf("Parse(%.60q) = %s, %d, want %d", s, show(e), fault, want)
		}
	}
}

func TestParseDeepest(t *testing.T) { // P6.1: MaxDeep, by Kids of Kids, and by ( ) in ( )
	times := strings.Repeat
	for name, text := range map[string]func(n int) string{ // each n deep
		"negative":  func(n int) string { return times("-", n) + "1" },
		"left":      func(n int) string { return "1" + times(" + 1", n) },
		"right":     func(n int) string { return times("1 - (", n-1) + "1 - 1" + times(")", n-1) },
		"calls":     func(n int) string { return times("f(", n) + "1" + times(")", n) },
		"arguments": func(n int) string { return times("f(1, ", n) + "$x" + times(", 1)", n) },
		"filters":   func(n int) string { return times("$x[", n) + "1" + times("]", n) },
		"brackets":  func(n int) string { return times("(", n) + "1" + times(")", n) },
		"parted":    func(n int) string { return times("(", n/2) + "1 + " + times("(", n-n/2) + "1" + times(")", n) },
	} {
		for n, want := range map[int]api.Errno{1: api.OK, api.MaxDeep - 1: api.OK, api.MaxDeep: api.OK, api.MaxDeep + 1: api.ErrLimit, api.MaxDeep + 2: api.ErrLimit} {
			if e, fault := xparse.Parse(text(n)); fault != want || (fault == api.OK) != xparse.Right(e) {
				t.Errorf("%s: %d deep: %d, want %d", name, n, fault, want)
			}
		}
	}
	// ( ) beside each other lie in none.
	if _, fault := xparse.Parse(times("(", api.MaxDeep) + "1" + times(")", api.MaxDeep) + "[(1)]" + times("[1]", api.MaxDeep)); fault != api.OK {
		t.Error(fault)
	}
	// A step in a path lies two deep in it: Path, Step, and the predicate.
	wantFault(t, times("a[", api.MaxDeep/2+1)+"1"+times("]", api.MaxDeep/2+1), api.ErrLimit)
	if _, fault := xparse.Parse(times("a[", api.MaxDeep/2) + "1" + times("]", api.MaxDeep/2)); fault != api.OK {
		t.Error(fault)
	}
	wantFault(t, times("a[", api.MaxDeep/2)+"a"+times("]", api.MaxDeep/2), api.ErrLimit)
	// ( ) of both sides, in predicates and in arguments too.
	half := api.MaxDeep / 2
	for n, want := range map[int]api.Errno{half: api.OK, half + 1: api.ErrLimit} {
		s := times("(", n) + "$x[" + times("(", half) + "f(1)" + times(")", half) + "]" + times(")", n)
		if _, fault := xparse.Parse(s); fault != want {
			t.Error(n, fault)
		}
	}
}

func TestParseMost(t *testing.T) { // P6.1: MaxTokens expressions
	for numbers, want := range map[int]api.Errno{0: api.OK, 1: api.OK, 2: api.ErrLimit, 3: api.ErrLimit} { // a Call, 170 Paths of three each, and Numbers
		s := "f(" + strings.Repeat("a,", 169) + "a" + strings.Repeat(",1", numbers) + ")"
		e, fault := xparse.Parse(s)
		if fault != want || fault == api.OK && xparse.Size(e) != 511+numbers {
			t.Error(numbers, xparse.Size(e), fault)
		}
	}
	s := "a" + strings.Repeat("/a", 255)
	if e, fault := xparse.Parse(s); fault != api.OK || xparse.Size(e) != 258 {
		t.Error(xparse.Size(e), fault)
	}
	s = "//a" + strings.Repeat("//a", 169)
	if e, fault := xparse.Parse(s); fault != api.OK || xparse.Size(e) != 342 {
		t.Error(xparse.Size(e), fault)
	}
}

// The other rule: where an expression may end, by the grammar as XPath has it, rule by rule, over sets of places.

type ends map[int]bool

func (a ends) join(b ends) ends {
	all := ends{}
	for _, x := range []ends{a, b} {
		for i := range x {
			all[i] = true
		}
	}
	return all
}

type rule func(i int) ends

func (a ends) then(r rule) ends {
	all := ends{}
	for i := range a {
		all = all.join(r(i))
	}
	return all
}

// many is any number of times, none too.
func (a ends) many(r rule) ends {
	for {
		more := a.join(a.then(r))
		if len(more) == len(a) {
			return a
		}
		a = more
	}
}

type grammar []api.Lex

func (g grammar) one(kind api.LexKind, texts string) rule {
	return func(i int) ends {
		if i < len(g) && g[i].Kind == kind && (texts == "" || strings.Contains(" "+texts+" ", " "+g[i].Text+" ")) {
			return ends{i + 1: true}
		}
		return ends{}
	}
}

func (g grammar) sign(s string) rule { return g.one(api.LexSign, s) }
func (g grammar) oper(s string) rule { return g.one(api.LexOperator, s) }

func (g grammar) level(n int) rule {
	signs := []string{"or", "and", "= !=", "< <= > >=", "+ -", "* div mod"}
	if n < len(signs) {
		return func(i int) ends {
			return g.level(n + 1)(i).many(func(i int) ends { return g.oper(signs[n])(i).then(g.level(n + 1)) })
		}
	}
	return func(i int) ends {
		return ends{i: true}.many(g.oper("-")).then(g.path).many(func(i int) ends { return g.oper("|")(i).then(g.path) })
	}
}

func (g grammar) path(i int) ends {
	slash := func(i int) ends { return g.oper("/")(i).then(g.steps) }
	twice := func(i int) ends { return g.oper("//")(i).then(g.steps) }
	filter := g.primary(i).many(g.predicate)
	return g.oper("/")(i).join(slash(i)).join(twice(i)).join(g.steps(i)).join(filter).join(filter.then(slash)).join(filter.then(twice))
}

func (g grammar) steps(i int) ends {
	return g.step(i).many(func(i int) ends { return g.oper("/ //")(i).then(g.step) })
}

func (g grammar) step(i int) ends {
	axes := "child descendant parent ancestor following-sibling preceding-sibling following preceding attribute self descendant-or-self ancestor-or-self"
	begin := ends{i: true}.join(g.sign("@")(i)).join(g.one(api.LexAxis, axes)(i).then(g.sign("::")))
	open := begin.then(g.one(api.LexType, "")).then(g.sign("("))
	named := begin.then(g.one(api.LexType, "processing-instruction")).then(g.sign("(")).then(g.one(api.LexString, ""))
	test := begin.then(g.one(api.LexName, "")).join(open.join(named).then(g.sign(")")))
	return g.sign(". ..")(i).join(test.many(g.predicate))
}

func (g grammar) predicate(i int) ends {
	return g.sign("[")(i).then(g.level(0)).then(g.sign("]"))
}

func (g grammar) primary(i int) ends {
	open := g.one(api.LexFunction, "")(i).then(g.sign("("))
	args := open.then(g.level(0)).many(func(i int) ends { return g.sign(",")(i).then(g.level(0)) })
	leaf := g.one(api.LexNumber, "")(i).join(g.one(api.LexString, "")(i)).join(g.one(api.LexVariable, "")(i))
	return leaf.join(g.sign("(")(i).then(g.level(0)).then(g.sign(")"))).join(open.join(args).then(g.sign(")")))
}

// taken tells whether a text is an expression by the other rule, and Scan's error.
func taken(s string) (bool, api.Errno) {
	l, e, _ := xplex.Scan(s)
	return e == api.OK && grammar(l).level(0)(0)[len(l)], e
}

func TestAgainstGrammar(t *testing.T) { // P6.1, P6.4: all short rows of tokens
	pieces := []string{"a", "p:*", "*", "and", "1", "'x'", "$v", "f", "text", "processing-instruction", "child", "::", "(", ")", "[", "]", ".", "..", "@", ",", "/", "//", "|", "-"}
	right := 0
	var all func(s string, n int)
	all = func(s string, n int) {
		ok, scan := taken(s)
		e, fault := xparse.Parse(s)
		switch {
		case scan != api.OK:
			if fault != scan {
				t.Fatalf("%q: %d, want %d", s, fault, scan)
			}
			return // what is behind makes no token of it
		case ok != (fault == api.OK) || !ok && fault != api.ErrWord || ok != xparse.Right(e):
			t.Fatalf("Parse(%q) = %s, %d; the grammar: %v", s, show(e), fault, ok)
		case ok:
			right++
		}
		for _, x := range pieces {
			if n > 0 {
				all(s+" "+x, n-1)
			}
		}
	}
	all("", 4)
	all("f (", 3)
	all("child :: a [", 3)
	if right < 2000 {
		t.Error(right)
	}
}
