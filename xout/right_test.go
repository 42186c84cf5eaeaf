package xout_test

import (
	"fmt"
	"math/rand"
	"reflect"
	"slices"
	"strings"
	"testing"

	"stencil/api"
	"stencil/xmlscan"
	"stencil/xout"
)

func element(name string, attrs ...string) api.Token {
	x := api.Token{Kind: api.Element, Name: name}
	for i := 0; i+1 < len(attrs); i += 2 {
		x.Attrs = append(x.Attrs, api.Pair{Name: attrs[i], Value: attrs[i+1]})
	}
	return x
}

func end(name string) api.Token      { return api.Token{Kind: api.End, Name: name} }
func text(s string) api.Token        { return api.Token{Kind: api.Text, Text: s} }
func comment(s string) api.Token     { return api.Token{Kind: api.Comment, Text: s} }
func instr(name, s string) api.Token { return api.Token{Kind: api.Pi, Name: name, Text: s} }

// in is tokens within an element.
func in(name string, l ...api.Token) []api.Token {
	return slices.Concat([]api.Token{element(name)}, l, []api.Token{end(name)})
}

func methods() []api.Method { return []api.Method{api.Xml, api.Html, api.Plain} }

func TestWords(t *testing.T) { // P10.1: Void, Raw, Short
	all := map[string]func(string) bool{
		"area base br col embed hr img input link meta source track wbr": xout.Void,
		"script style": xout.Raw,
		"checked compact declare defer disabled ismap multiple nohref noresize noshade nowrap readonly selected": xout.Short,
	}
	for words, is := range all {
		for _, word := range strings.Fields(words) {
			mixed := strings.ToUpper(word[:1]) + word[1:len(word)-1] + strings.ToUpper(word[len(word)-1:])
			for _, s := range []string{word, strings.ToUpper(word), mixed} {
				if !is(s) {
					t.Error(s, "is none")
				}
				for others, other := range all {
					if others != words && other(s) {
						t.Error(s, "is one of", others)
					}
				}
			}
			for _, s := range []string{"h:" + word, word + ":" + word, ":" + word, word + ":", word + " ", " " + word, word + "x", "x" + word, word[2:], word[:len(word)-1], word + "\x00", word + "\xff", "\ufeff" + word, word + word} {
				if is(s) {
					t.Error(s, "is one")
				}
			}
		}
	}
	for _, is := range all {
		for _, s := range []string{"", " ", "p", "a", "div", "html", "xml", "keygen", "param", "command", "textarea", "title", "pre", "value", "async", "autofocus", "required", "hidden", "\xff", "\x00", "😀", "b\u0072\u0301", "lin\u212a", "trac\u212a", "\u017fcript", "\u017ftyle", "ba\u017fe", "l\u0130nk", "d\u0130sabled", "chec\u212aed", "ｂｒ", strings.Repeat("br", api.MaxText)} {
			if is(s) {
				t.Errorf("%.20q is one", s)
			}
		}
	}
}

// right are tokens of trees.
func right() [][]api.Token {
	return [][]api.Token{
		nil, {}, {text("x")}, {comment("")}, {instr("p", "")}, {comment("c"), comment("c"), instr("p", "q"), instr("p", "q")},
		in("a"), in("a", text("x")), in("a:b"), {element("a", "b", "1", "c:b", ""), end("a")}, in("a", in("a", in("a")...)...),
		// Several elements, and texts beside them.
		slices.Concat(in("a"), in("a")), slices.Concat(in("a"), in("b"), in("a")), slices.Concat([]api.Token{text("x")}, in("a"), []api.Token{text("y")}, in("b"), []api.Token{text("z")}),
		{text("x"), comment("c"), text("y"), instr("p", ""), text("z")}, {text(" ")}, {text("\r\n\t")},
		in("a", text("x"), comment(""), text("y"), element("b"), end("b"), text("z")), in("around"), slices.Concat(in("around"), in("around")), {element("xmlns:a", "xmlns", "", "xmlns:p", "", "xml:space", "z"), end("xmlns:a")},
		in("a", comment("&<>\" - x")), in("a", instr("xmlx", "&<> ?")), in("a", text("]]>&<\"'\r")), in("é"), in("br", text("x")), in("script", comment("x")),
	}
}

// wrong are tokens of none.
func wrong() [][]api.Token {
	a := element("a")
	l := [][]api.Token{
		{a}, {end("a")}, {a, end("b")}, {a, end("")}, {end("a"), a}, {a, end("a"), end("a")}, {a, a, end("a")}, {a, element("b"), end("a"), end("b")}, {a, end("A")}, {a, end("a"), a}, {element("a:b"), end("b")},
		// What would end, or begin, an element around it all.
		{end("around")}, {element("around")}, {end("around"), element("around")}, {end("around"), text("x"), element("around")}, {end("around"), comment("x")}, {element("around"), end("around"), end("around"), element("around")},
		{text("")}, in("a", text("")), {text("x"), text("y")}, in("a", text("x"), text("y")), {text("x"), a, end("a"), text("y"), text("z")}, in("a", text("x"), text("")),
		{element("a", "b", "1", "b", "2"), end("a")}, {element("a", "b:c", "", "d", "", "b:c", ""), end("a")},
	}
	for _, s := range []string{"", "1", "-a", "a b", "a:", ":a", "a:b:c", "a>", " a", "a ", "é!", "\xff", "a\x00", "a\xff"} {
		l = append(l, in(s), []api.Token{element("a", s, ""), end("a")}, []api.Token{instr(s, "")}, in("a", in(s)...))
	}
	for _, s := range []string{"\x00", "\x0b", "\xff", "\ufffe", "\uffff", "x\xed\xa0\x80", "\xe2\x82", "\x1f"} {
		l = append(l, []api.Token{text(s)}, []api.Token{comment(s)}, []api.Token{instr("p", s)}, []api.Token{element("a", "b", s), end("a")}, in("a", text(s)))
	}
	for _, s := range []string{"-", "--", "a--b", "a-", "--a", "-->"} {
		l = append(l, []api.Token{comment(s)}, in("a", comment(s)))
	}
	for _, s := range []string{" ", "\t", "\nq", "\rq", " q", "?>", "q?>", "?>q"} {
		l = append(l, []api.Token{instr("p", s)}, in("a", instr("p", s)))
	}
	for _, s := range []string{"xml", "XML", "xMl", "a:b"} {
		l = append(l, []api.Token{instr(s, "")}, in("a", instr(s, "q")))
	}
	for _, kind := range []api.Kind{api.NoKind, api.Root, api.Attr, api.End + 1, -1, 1 << 40} {
		l = append(l, []api.Token{{Kind: kind}}, []api.Token{{Kind: kind, Name: "a", Text: "x"}}, in("a", api.Token{Kind: kind, Name: "a"}))
	}
	// What the kind of a token has not, it has not.
	attrs := []api.Pair{{Name: "b", Value: "1"}}
	for _, x := range []api.Token{{Kind: api.Text, Text: "x", Name: "n"}, {Kind: api.Text, Text: "x", Attrs: attrs}, {Kind: api.Comment, Name: "n"}, {Kind: api.Comment, Attrs: attrs}, {Kind: api.Pi, Name: "p", Attrs: attrs}} {
		l = append(l, []api.Token{x}, in("a", x))
	}
	return append(l, []api.Token{{Kind: api.Element, Name: "a", Text: "x"}, end("a")}, []api.Token{a, {Kind: api.End, Name: "a", Text: "x"}}, []api.Token{a, {Kind: api.End, Name: "a", Attrs: attrs}})
}

func TestRight(t *testing.T) { // P10.1
	for _, l := range right() {
		if e := xout.Right(l...); e != api.OK {
			t.Errorf("%+v: %d", l, e)
		}
	}
	for _, l := range wrong() {
		if e := xout.Right(l...); e != api.ErrForm {
			t.Errorf("%+v: %d", l, e)
		}
		for _, m := range methods() {
			if s, e := xout.Write(m, l...); s != "" || e != api.ErrForm {
				t.Errorf("%+v: %q, %d", l, s, e)
			}
			if b, e := xout.Bytes(m, true, l...); len(b) != 0 || e != api.ErrForm {
				t.Errorf("%+v: %q, %d", l, b, e)
			}
		}
	}
}

// nested is n elements in each other.
func nested(n int) []api.Token {
	return append(slices.Repeat([]api.Token{element("a")}, n), slices.Repeat([]api.Token{end("a")}, n)...)
}

// crowded is an element with n attributes.
func crowded(n int) []api.Token {
	x := element("a")
	for i := range n {
		x.Attrs = append(x.Attrs, api.Pair{Name: fmt.Sprint("a", i)})
	}
	return []api.Token{x, end("a")}
}

// listed is n tokens, the ends of elements among them.
func listed(n int) []api.Token {
	l := slices.Repeat(in("a"), n/2)
	return append(l, slices.Repeat([]api.Token{comment("")}, n%2)...)
}

func TestRightLimits(t *testing.T) { // P10.1: ErrLimit, and behind ErrForm
	for most, make := range map[int]func(int) []api.Token{api.MaxDeep: nested, api.MaxAttrs: crowded, api.MaxNodes: listed} {
		for _, n := range []int{0, 1, most - 1, most} {
			if e := xout.Right(make(n)...); e != api.OK {
				t.Error(most, n, e)
			}
		}
		for _, n := range []int{most + 1, most + 2, 2 * most} {
			over := make(n)
			if e := xout.Right(over...); e != api.ErrLimit {
				t.Error(most, n, e)
			}
			if e := xout.Right(append(over, text(""))...); e != api.ErrForm {
				t.Error(most, n, e)
			}
			if e := xout.Right(append([]api.Token{text("")}, over...)...); e != api.ErrForm {
				t.Error(most, n, e)
			}
			for _, m := range methods() {
				if s, e := xout.Write(m, over...); s != "" || e != api.ErrLimit {
					t.Error(most, n, m, e)
				}
			}
		}
	}
	// As deep as that, and as many attributes, several times; texts of any length.
	if e := xout.Right(slices.Concat(nested(api.MaxDeep), nested(api.MaxDeep), crowded(api.MaxAttrs), crowded(api.MaxAttrs))...); e != api.OK {
		t.Error(e)
	}
	if e := xout.Right(slices.Concat(in("a"), nested(api.MaxDeep+1))...); e != api.ErrLimit {
		t.Error(e)
	}
	if e := xout.Right(slices.Concat(in("a"), crowded(api.MaxAttrs+1))...); e != api.ErrLimit {
		t.Error(e)
	}
	if e := xout.Right(slices.Concat([]api.Token{element("b")}, nested(api.MaxDeep), []api.Token{end("b")})...); e != api.ErrLimit {
		t.Error(e)
	}
	if e := xout.Right(text(strings.Repeat("<", 3*api.MaxText)), element(strings.Repeat("a", 2*api.MaxText)), end(strings.Repeat("a", 2*api.MaxText))); e != api.OK {
		t.Error(e)
	}
}

func TestRightOfDocuments(t *testing.T) { // P10.1: what xmlscan writes is a tree's, and what is one in an element
	chance := rand.New(rand.NewSource(3))
	some := []api.Token{element("a"), element("a"), end("a"), end("a"), element("b", "c", "1"), end("b"), text("x"), text("y"), comment("c"), instr("p", "q"), text(""), comment("-")}
	trees := 0
	for range 50000 {
		var l []api.Token
		for range chance.Intn(7) {
			l = append(l, some[chance.Intn(len(some))])
		}
		_, alone := xmlscan.Write(l...)
		_, inner := xmlscan.Write(in("z", l...)...)
		e := xout.Right(l...)
		if e != inner || alone == api.OK && e != api.OK {
			t.Fatal(l, e, inner, alone)
		}
		if e == api.OK {
			trees++
		}
	}
	if trees < 1000 {
		t.Error("too few trees", trees)
	}
}

// spared is tokens that share nothing with others, and have spare room behind their ends.
func spared(l []api.Token) []api.Token {
	other := make([]api.Token, len(l), len(l)+3)
	for i, x := range l {
		other[i] = x
		if x.Attrs != nil {
			other[i].Attrs = append(make([]api.Pair, 0, len(x.Attrs)+3), x.Attrs...)
			other[i].Attrs[:len(x.Attrs)+1][len(x.Attrs)] = api.Pair{Name: "spare"}
		}
	}
	other[:len(l)+1][len(l)] = text("spare")
	return other
}

func TestTokensStay(t *testing.T) { // P3, P6
	for _, l := range slices.Concat(right(), wrong(), [][]api.Token{crowded(api.MaxAttrs + 1), nested(api.MaxDeep + 1)}) {
		mine, kept := spared(l), spared(l)
		for _, m := range []api.Method{api.Xml, api.Html, api.Plain, 7} {
			s, e := xout.Write(m, mine...)
			again, e2 := xout.Write(m, mine...)
			b, e3 := xout.Bytes(m, false, mine...)
			clear(b)
			b, e4 := xout.Bytes(m, false, mine...)
			if s != again || string(b) != s || e != e2 || e != e3 || e != e4 {
				t.Errorf("%+v: %q, %q, %q, %d %d %d %d", l, s, again, b, e, e2, e3, e4)
			}
		}
		xout.Right(mine...)
		if !reflect.DeepEqual(mine[:len(l)+1], kept[:len(l)+1]) {
			t.Errorf("%+v has changed", l)
		}
		for i := range l {
			if n := len(l[i].Attrs); n > 0 && mine[i].Attrs[:n+1][n].Name != "spare" {
				t.Error("spare room is written to")
			}
		}
	}
}
