package xparse_test

import (
	"reflect"
	"slices"
	"strings"
	"testing"

	"stencil/api"
	"stencil/xparse"
)

// wantRight asks all calls whether an expression is right.
func wantRight(t *testing.T, e api.Expr, want bool) {
	t.Helper()
	_, fault := xparse.Print(e)
	if xparse.Right(e) != want || xparse.Same(e, e) != want || (xparse.Size(e) > 0) != want || (fault != api.ErrWord) != want {
		t.Errorf("Right(%.200s) = %v, Same %v, Size %d, Print %d", show(e), xparse.Right(e), xparse.Same(e, e), xparse.Size(e), fault)
	}
	if !want && (len(xparse.Names(e)) > 0 || xparse.Size(e) != 0) {
		t.Error(show(e), xparse.Names(e))
	}
}

// each are right expressions, of each Op at least one.
func each() []api.Expr {
	x, y := variable("x"), child("y")
	stepB := step(api.Descendant, api.OneName, "b", num(1))
	l := []api.Expr{num(0), num(7), {Op: api.Number, Num: api.Num{V: api.MaxNum}}, str(""), str("a'"), str("\t\ufffd"), variable("p:é"), call("f"), call("p:text", x, y),
		op(api.Neg, x), op(api.Filter, num(1), num(2)), op(api.Filter, str("a"), x, y), op(api.Filter, x, y), op(api.Filter, call("f"), x), op(api.Filter, y, x), op(api.Filter, op(api.Or, x, y), x), op(api.Filter, op(api.Path, op(api.Filter, x, x), stepB), x),
		top(), top(stepB), here(stepB), here(stepB, stepB), op(api.Path, x, stepB), op(api.Path, num(1), stepB), op(api.Path, op(api.Filter, x, y), stepB), op(api.Path, y, stepB), op(api.Path, top(), stepB, stepB), op(api.Path, op(api.Neg, x), stepB),
		here(step(api.Child, api.AnyName, "")), here(step(api.Parent, api.AnyLocal, "p", x, y)), here(step(api.AncestorOrSelf, api.OneName, "p:a")), here(step(api.Self, api.AnyNode, "")), here(step(api.Self, api.AnyText, "")),
		here(step(api.Self, api.AnyComment, "")), here(step(api.Attribute, api.AnyPi, "")), here(step(api.Self, api.AnyPi, "no name '")),
	}
	for o := api.Or; o <= api.Union; o++ {
		if o != api.Neg {
			l = append(l, op(o, x, y), op(o, op(o, x, y), op(o, top(), num(3))))
		}
	}
	return l
}

func TestRight(t *testing.T) { // P6.2
	for _, e := range each() {
		wantRight(t, e, true)
	}
	// An empty list is none, as nil is.
	for _, e := range []api.Expr{{Op: api.Number, Kids: []api.Expr{}}, {Op: api.Path, Kids: []api.Expr{{Op: api.Top, Kids: []api.Expr{}}}}} {
		wantRight(t, e, true)
	}
}

// spots are all places in an expression's copies at which one may be changed, each with a copy of its own.
func spots(e api.Expr, visit func(whole, spot *api.Expr)) {
	paths := [][]int{nil}
	for i := 0; i < len(paths); i++ {
		at := e
		for _, k := range paths[i] {
			at = at.Kids[k]
		}
		for k := range at.Kids {
			paths = append(paths, append(slices.Clone(paths[i]), k))
		}
	}
	for _, path := range paths {
		whole := deepCopy(e)
		spot := &whole
		for _, k := range path {
			spot = &spot.Kids[k]
		}
		visit(&whole, spot)
	}
}

func deepCopy(e api.Expr) api.Expr {
	kids := make([]api.Expr, 0, len(e.Kids)+2)
	for _, k := range e.Kids {
		kids = append(kids, deepCopy(k))
	}
	e.Kids = kids
	return e
}

func TestRightInAllButOne(t *testing.T) { // P6.2: one field that is wrong makes the whole wrong, wherever it is
	changes := map[string]func(e *api.Expr) bool{ // false: it may be so
		"text": func(e *api.Expr) bool {
			e.Text += "x"
			return e.Op != api.String && e.Op != api.Variable && e.Op != api.Call && !(e.Op == api.Step && (e.Test == api.AnyLocal || e.Test == api.OneName || e.Test == api.AnyPi))
		},
		"no name": func(e *api.Expr) bool {
			e.Text += " "
			return e.Op != api.String && !(e.Op == api.Step && e.Test == api.AnyPi)
		},
		"signs":    func(e *api.Expr) bool { e.Text += `"'`; return true },
		"null":     func(e *api.Expr) bool { e.Text += "\x00"; return true },
		"no utf":   func(e *api.Expr) bool { e.Text += "\xff"; return true },
		"number":   func(e *api.Expr) bool { e.Num.V += 5; return e.Op != api.Number || e.Num.V > api.MaxNum },
		"below":    func(e *api.Expr) bool { e.Num.V = -1; return true },
		"great":    func(e *api.Expr) bool { e.Num.V = api.MaxNum + 1; return true },
		"NaN":      func(e *api.Expr) bool { e.Num = api.Num{Kind: api.NaN}; return true },
		"infinite": func(e *api.Expr) bool { e.Num = api.Num{Kind: api.PlusInf}; return true },
		"minus":    func(e *api.Expr) bool { e.Num = api.Num{Kind: api.MinusInf}; return true },
		"kind":     func(e *api.Expr) bool { e.Num.Kind = 4; return true },
		"axis":     func(e *api.Expr) bool { e.Axis = api.Descendant; return e.Op != api.Step },
		"axis 12":  func(e *api.Expr) bool { e.Axis = api.AncestorOrSelf + 1; return true },
		"axis -1":  func(e *api.Expr) bool { e.Axis = -1; return true },
		"test":     func(e *api.Expr) bool { e.Test = api.AnyNode; return e.Op != api.Step || e.Text != "" },
		"test 7":   func(e *api.Expr) bool { e.Test = api.AnyPi + 1; return true },
		"test -1":  func(e *api.Expr) bool { e.Test = -1; return true },
		"no name test": func(e *api.Expr) bool {
			old := e.Test
			e.Test = api.OneName
			return e.Op != api.Step || e.Text == "" || old == api.AnyPi && strings.Contains(e.Text, " ")
		},
		"local": func(e *api.Expr) bool {
			e.Test = api.AnyLocal
			return e.Op != api.Step || e.Text == "" || strings.ContainsAny(e.Text, ": ")
		},
		"op":    func(e *api.Expr) bool { e.Op = api.Step + 1; return true },
		"op -1": func(e *api.Expr) bool { e.Op = -1; return true },
		"empty": func(e *api.Expr) bool { *e = api.Expr{Op: api.Filter}; return true },
		"wrong": func(e *api.Expr) bool { e.Kids = append(e.Kids, api.Expr{Op: 99}); return true },
		"NoOp":  func(e *api.Expr) bool { e.Kids = append(e.Kids, api.Expr{}); return true },
		"Top":   func(e *api.Expr) bool { e.Kids = append(e.Kids, api.Expr{Op: api.Top}); return true },
		"step": func(e *api.Expr) bool {
			e.Kids = append(e.Kids, step(api.Child, api.AnyName, ""))
			return e.Op != api.Path
		},
		"one more": func(e *api.Expr) bool {
			e.Kids = append(e.Kids, num(1))
			return e.Op != api.Call && e.Op != api.Filter && e.Op != api.Step
		},
		"one less": func(e *api.Expr) bool {
			if len(e.Kids) == 0 {
				e.Op = api.Neg
				return true
			}
			e.Kids = e.Kids[:len(e.Kids)-1]
			return e.Op != api.Call && e.Op != api.Step && !(e.Op == api.Filter && len(e.Kids) > 1) &&
				!(e.Op == api.Path && len(e.Kids) > 0 && (len(e.Kids) > 1 || e.Kids[0].Op == api.Top))
		},
		"of the types": func(e *api.Expr) bool {
			old := e.Op
			e.Text = "processing-instruction"
			return old != api.String && old != api.Variable && !(old == api.Step && (e.Test == api.AnyLocal || e.Test == api.OneName || e.Test == api.AnyPi))
		},
	}
	tried := 0
	for _, e := range each() {
		for name, change := range changes {
			spots(e, func(whole, spot *api.Expr) {
				wrong := change(spot)
				tried++
				if xparse.Right(*whole) == wrong {
					t.Errorf("%s: %s", name, show(*whole))
				}
				wantRight(t, *whole, !wrong)
			})
		}
	}
	if tried < 3000 {
		t.Error(tried)
	}
}

func TestRightKids(t *testing.T) { // P6.2: what may be a Kid of what
	x := variable("x")
	stepA := step(api.Child, api.OneName, "a")
	odd := []api.Expr{{}, {Op: api.Top}, stepA, {Op: 24}, {Op: -1}, op(api.Add), op(api.Filter, op(api.Filter, x, x), x)}
	for _, k := range odd {
		wantRight(t, k, false)
		for _, e := range []api.Expr{op(api.Add, k, x), op(api.Add, x, k), op(api.Union, k, x), op(api.Neg, k), call("f", k), call("f", x, k), op(api.Filter, k, x), op(api.Filter, x, k), op(api.Filter, x, x, k),
			here(step(api.Child, api.AnyName, "", k)), here(step(api.Child, api.AnyName, "", x, k)), op(api.Path, k), op(api.Path, op(api.Path, k), stepA)} {
			if k.Op == api.Top && e.Op == api.Path && len(e.Kids) <= 2 && e.Kids[0].Op != api.NoOp {
				wantRight(t, e, true) // Path of Top, and a Path of that
				continue
			}
			wantRight(t, e, false)
		}
	}
	for _, e := range []api.Expr{op(api.Path), op(api.Path, x), op(api.Path, num(1)), op(api.Path, here(stepA)), op(api.Path, x, x), op(api.Path, stepA), op(api.Path, stepA, stepA), here(), here(x), top(x), here(stepA, x), top(stepA, api.Expr{Op: api.Top}),
		op(api.Path, api.Expr{Kids: []api.Expr{x}}, stepA), op(api.Path, api.Expr{Op: api.Top, Kids: []api.Expr{x}}), op(api.Path, api.Expr{Text: "a"}, stepA), op(api.Path, api.Expr{Op: api.Top, Text: "a"}),
		op(api.Filter), op(api.Filter, x), op(api.Filter, op(api.Filter, x, x), x), op(api.Neg), op(api.Neg, x, x), op(api.Or), op(api.Or, x), op(api.Or, x, x, x), op(api.Union, x),
		call(""), call("1"), call("a:b:c"), call("a "), call("text"), call("node"), call("comment"), call("processing-instruction"), variable(""), variable("$a"), variable("a:*"), variable("*"),
		here(step(api.Child, api.OneName, "")), here(step(api.Child, api.OneName, "*")), here(step(api.Child, api.OneName, "p:*")), here(step(api.Child, api.AnyLocal, "")), here(step(api.Child, api.AnyLocal, "p:a")), here(step(api.Child, api.AnyLocal, "p:*")),
		str("\x00"), str("\xff"), str("\ufffe"), str(`"'`), {Op: api.Number, Num: api.Num{V: -1}}, {Op: api.Number, Num: api.Num{V: api.MaxNum + 1}}, {Op: api.Number, Num: api.Num{Kind: api.NaN}}, {Op: api.Number, Num: api.Num{Kind: -1}},
	} {
		wantRight(t, e, false)
	}
	for _, name := range []string{"p:text", "text:node", "Text", "texts", "and", "child", "last"} {
		wantRight(t, call(name), true)
	}
}

func TestRightLimits(t *testing.T) { // P6.2: MaxDeep, MaxTokens
	deep := func(n int) api.Expr { // n deep
		e := num(1)
		for range n {
			e = op(api.Neg, e)
		}
		return e
	}
	wide := func(n int) api.Expr { return call("f", slices.Repeat([]api.Expr{variable("x")}, n-1)...) } // n of them
	wantRight(t, deep(api.MaxDeep), true)
	wantRight(t, deep(api.MaxDeep+1), false)
	wantRight(t, deep(1<<16), false)
	wantRight(t, op(api.Add, num(1), deep(api.MaxDeep-1)), true)
	wantRight(t, op(api.Add, num(1), deep(api.MaxDeep)), false)
	wantRight(t, wide(api.MaxTokens), true)
	wantRight(t, wide(api.MaxTokens+1), false)
	wantRight(t, wide(1<<16), false)
	wantRight(t, op(api.Add, wide(api.MaxTokens/2), wide(api.MaxTokens/2-1)), true)
	wantRight(t, op(api.Add, wide(api.MaxTokens/2), wide(api.MaxTokens/2)), false)
	if n := xparse.Size(wide(api.MaxTokens)); n != api.MaxTokens {
		t.Error(n)
	}
	if n := xparse.Size(deep(api.MaxDeep)); n != api.MaxDeep+1 {
		t.Error(n)
	}
	// A path's first one, its steps and their predicates lie deep, too.
	path := here(step(api.Child, api.AnyName, ""))
	for range api.MaxDeep - 1 {
		path = op(api.Neg, path)
	}
	wantRight(t, path, true)
	wantRight(t, op(api.Neg, path), false)
	// Lists that lie in themselves, and one list many times.
	kids := make([]api.Expr, 2)
	kids[0], kids[1] = op(api.Add, kids...), op(api.Add, kids...)
	kids[0].Kids, kids[1].Kids = kids, kids
	wantRight(t, kids[0], false)
	again := op(api.Or, num(1), num(1))
	for range 30 {
		again = op(api.Or, again, again)
	}
	wantRight(t, again, false)
}

func TestSame(t *testing.T) { // P6.2
	l := each()
	for i, a := range l {
		for k, b := range l {
			if xparse.Same(a, b) != (i == k) {
				t.Errorf("%s, %s", show(a), show(b))
			}
		}
		if !xparse.Same(a, deepCopy(a)) { // nil and an empty list are alike
			t.Error(show(a))
		}
		for _, wrong := range []api.Expr{{}, {Op: api.Top}, op(api.Neg), {Op: 99}} {
			if xparse.Same(a, wrong) || xparse.Same(wrong, a) || xparse.Same(wrong, wrong) {
				t.Error(show(a), show(wrong))
			}
		}
	}
	x, y := variable("x"), variable("y")
	for _, c := range [][2]api.Expr{{op(api.Add, x, y), op(api.Add, y, x)}, {call("f", x), call("f", x, x)}, {call("f", x), call("g", x)}, {str("x"), x}, {num(1), str("1")}, {op(api.Lt, x, y), op(api.Gt, y, x)},
		{here(step(api.Child, api.AnyName, "")), here(step(api.Self, api.AnyName, ""))}, {here(step(api.Child, api.AnyText, "")), here(step(api.Child, api.AnyNode, ""))}, {here(step(api.Self, api.AnyNode, "")), top(step(api.Self, api.AnyNode, ""))}} {
		if xparse.Same(c[0], c[1]) || xparse.Same(c[1], c[0]) {
			t.Error(show(c[0]), show(c[1]))
		}
	}
}

func TestSize(t *testing.T) { // P6.2
	for s, want := range map[string]int{"1": 1, "$x": 1, "''": 1, "f()": 1, "f(1, 2)": 3, "a": 3, "/": 2, "/a": 3, "//a": 4, "a/b": 4, "a[1]": 4, "$x[1][2]": 4, "-1": 2, "1 + 2": 3, "$x/a": 3, "$x[1]/a[2]": 6, "(1)": 1, "a|b": 7, "a = 'b'": 5} {
		e, fault := xparse.Parse(s)
		if n := xparse.Size(e); n != want || fault != api.OK {
			t.Error(s, n, fault)
		}
	}
}

func TestNames(t *testing.T) { // P6.2
	for s, want := range map[string]string{
		"1": "", "a": "", "'$x'": "", "$x": "x", "$x + $x": "x", "$b + $a": "a b", "f($z, $y[$x], a[$w])": "w x y z", "$a:b | $a | $B | $aa | $é | $a-b | $a.b": "B a a-b a.b a:b aa é",
		"-$x/a[$y = $x]//b[f($p:x)]": "p:x x y", "x(y)": "",
	} {
		e, fault := xparse.Parse(s)
		if got := strings.Join(xparse.Names(e), " "); got != want || fault != api.OK {
			t.Errorf("%s: %q, %d", s, got, fault)
		}
	}
	for _, e := range []api.Expr{{Op: api.Variable}, op(api.Add, variable("x")), {Op: api.Variable, Text: "x", Axis: 1}} {
		if l := xparse.Names(e); len(l) != 0 {
			t.Error(show(e), l)
		}
	}
}

func TestListsStay(t *testing.T) { // P3
	e := deepCopy(op(api.Filter, op(api.Path, op(api.Filter, variable("y"), variable("x")), step(api.Child, api.AnyName, "", num(1))), variable("x"))) // its lists have spare room
	full := e.Kids[:cap(e.Kids)]
	full[len(full)-1] = variable("spare")
	kept := deepCopy(e)
	xparse.Print(e)
	xparse.Right(e)
	xparse.Same(e, e)
	xparse.Size(e)
	xparse.Names(e)
	if show(e) != show(kept) || !reflect.DeepEqual(full[len(full)-1], variable("spare")) {
		t.Error(show(e))
	}
	names := xparse.Names(e)
	for i := range names[:cap(names)] {
		names[:cap(names)][i] = "spoilt"
	}
	if show(e) != show(kept) || slices.Contains(xparse.Names(e), "spoilt") {
		t.Error(show(e), xparse.Names(e))
	}
}

func TestAnswersAreTheCallers(t *testing.T) { // P3: lists of an answer lie in none of it, and in no other answer
	for _, s := range []string{"a//b[1][2]/c | $x[1][2][3]/d", "f(1, 2, 3) + (($x[1])[2])[3] * -4", "//a//b", "(a[1])[2]//b = /"} {
		e, fault := xparse.Parse(s)
		want := show(e)
		if fault != api.OK {
			t.Fatal(s, fault)
		}
		var lists [][]api.Expr
		var gather func(e api.Expr)
		gather = func(e api.Expr) {
			if cap(e.Kids) > 0 {
				lists = append(lists, e.Kids[:cap(e.Kids)])
			}
			for _, k := range e.Kids {
				gather(k)
			}
		}
		gather(e)
		known := map[*api.Expr]bool{}
		for _, l := range lists {
			for i := range l {
				if known[&l[i]] {
					t.Fatal(s)
				}
				known[&l[i]] = true
			}
		}
		for _, l := range lists {
			clear(l)
		}
		if again, _ := xparse.Parse(s); show(again) != want {
			t.Errorf("%q: %s, want %s", s, show(again), want)
		}
	}
}
