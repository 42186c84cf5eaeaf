package xbuild_test

import (
	"fmt"
	"math"
	"reflect"
	"slices"
	"strings"
	"testing"

	"stencil/api"
	"stencil/xbuild"
)

const xmlUri = "http://www.w3.org/XML/1998/namespace"

// step is one call of a builder.
type step func(b *xbuild.Builder) api.Errno

// named is a name by its QName, and what its prefix stands for.
func named(qname, uri string) api.Name {
	prefix, local, two := strings.Cut(qname, ":")
	if !two {
		prefix, local = "", qname
	}
	return api.Name{Uri: uri, Prefix: prefix, Local: local}
}

func open(qname, uri string) step {
	return func(b *xbuild.Builder) api.Errno { return b.Open(named(qname, uri)) }
}

func attr(qname, uri, value string) step {
	return func(b *xbuild.Builder) api.Errno { return b.Attr(named(qname, uri), value) }
}

func declare(prefix, uri string) step {
	return func(b *xbuild.Builder) api.Errno { return b.Declare(prefix, uri) }
}

func words(s string) step { return func(b *xbuild.Builder) api.Errno { return b.Text(s) } }

func comment(s string) step { return func(b *xbuild.Builder) api.Errno { return b.Comment(s) } }

func pi(name, s string) step { return func(b *xbuild.Builder) api.Errno { return b.Pi(name, s) } }

func ends(b *xbuild.Builder) api.Errno { return b.Close() }

// build is what steps build, none of which may be refused.
func build(t testing.TB, l ...step) *xbuild.Builder {
	t.Helper()
	return buildOn(t, xbuild.New(), l...)
}

func buildOn(t testing.TB, b *xbuild.Builder, l ...step) *xbuild.Builder {
	t.Helper()
	for i, s := range l {
		if e := s(b); e != api.OK {
			t.Fatalf("step %d: %d", i, e)
		}
	}
	return b
}

// written is tokens as a text, which need not be a document's.
func written(l []api.Token) string {
	var s strings.Builder
	for _, x := range l {
		switch x.Kind {
		case api.Element:
			s.WriteString("<" + x.Name)
			for _, a := range x.Attrs {
				fmt.Fprintf(&s, " %s=%q", a.Name, a.Value)
			}
			s.WriteString(">")
		case api.End:
			s.WriteString("</" + x.Name + ">")
		case api.Text:
			s.WriteString("[" + x.Text + "]")
		case api.Comment:
			s.WriteString("<!--" + x.Text + "-->")
		case api.Pi:
			s.WriteString("<?" + x.Name + " " + x.Text + "?>")
		default:
			fmt.Fprint(&s, x)
		}
	}
	return s.String()
}

// state is all that a builder tells.
func state(b *xbuild.Builder) string {
	f := b.Fork()
	for f.Deep() > 0 {
		f.Close()
	}
	l, _ := f.Tokens()
	return fmt.Sprintf("%d %q %s", b.Deep(), b.String(), written(l))
}

func tells(t *testing.T, want string, l ...step) {
	t.Helper()
	b := build(t, l...)
	got, e := b.Tokens()
	if e != api.OK || written(got) != want {
		t.Errorf("%s, %d, want %s", written(got), e, want)
	}
}

// refuses asks for an error that changes nothing.
func refuses(t *testing.T, b *xbuild.Builder, want api.Errno, s step) {
	t.Helper()
	ahead := state(b)
	if e := s(b); e != want {
		t.Errorf("%.300s: %d, want %d", ahead, e, want)
	}
	if behind := state(b); behind != ahead {
		t.Errorf("%.300s is now %.300s", ahead, behind)
	}
}

func TestTokens(t *testing.T) { // P14.4: the tokens as api says them
	b := build(t,
		pi("p", "q"), open("a", ""), attr("b", "", "1"), attr("c", "", ""), words("x"), comment("y"), open("e", ""), ends, words("z"), ends, comment(""), pi("r", ""))
	want := []api.Token{
		{Kind: api.Pi, Name: "p", Text: "q"},
		{Kind: api.Element, Name: "a", Attrs: []api.Pair{{Name: "b", Value: "1"}, {Name: "c"}}},
		{Kind: api.Text, Text: "x"}, {Kind: api.Comment, Text: "y"},
		{Kind: api.Element, Name: "e"}, {Kind: api.End, Name: "e"},
		{Kind: api.Text, Text: "z"}, {Kind: api.End, Name: "a"}, {Kind: api.Comment}, {Kind: api.Pi, Name: "r"},
	}
	got, e := b.Tokens()
	if e != api.OK || !reflect.DeepEqual(got, want) {
		t.Error(got, e)
	}
	if l, e := xbuild.New().Tokens(); len(l) != 0 || e != api.OK {
		t.Error(l, e)
	}
}

func TestNodes(t *testing.T) { // P14.1 to P14.4: nodes one behind the other, and in each other
	tells(t, "")
	tells(t, `<a></a>`, open("a", ""), ends)
	tells(t, `<a><b></b><b><c></c></b></a>`, open("a", ""), open("b", ""), ends, open("b", ""), open("c", ""), ends, ends, ends)
	// Several elements at the top, and texts beside them.
	tells(t, `<a></a><a></a>[x]<b></b>`, open("a", ""), ends, open("a", ""), ends, words("x"), open("b", ""), ends)
	tells(t, `[x]`, words("x"))
	tells(t, `<a b="&<\"" c="\r\n">[&<>]]]</a>`, open("a", ""), attr("b", "", `&<"`), attr("c", "", "\r\n"), words("&<>]]"), ends)
	tells(t, `<!---><&?>--><?p >-?&--?>`, comment("-><&?>"), pi("p", ">-?&--"))
	tells(t, `<xmlns></xmlns><é></é><xml></xml>`, open("xmlns", ""), ends, open("é", ""), ends, open("xml", ""), ends)
}

func TestTexts(t *testing.T) { // P14.3, P14.7: those one behind the other are one text
	tells(t, `[xyz]`, words("x"), words("y"), words("z"))
	tells(t, `[x]<a>[yz]<b>[u]</b>[v]</a>[w]`, words("x"), open("a", ""), words("y"), words("z"), open("b", ""), words("u"), ends, words("v"), ends, words("w"))
	tells(t, `[xy]<!--c-->[z]<?p ?>[u]`, words("x"), words("y"), comment("c"), words("z"), pi("p", ""), words("u"))
	tells(t, `[x]<!---->[y]`, words("x"), comment(""), words("y"))
	tells(t, `[a  b]`, words("a"), words(" "), words(" "), words("b"))
	// An empty one is nothing: it parts nothing, and is in nothing.
	tells(t, ``, words(""))
	tells(t, `[xy]`, words(""), words("x"), words(""), words("y"), words(""))
	tells(t, `<a b="1"></a>`, open("a", ""), words(""), attr("b", "", "1"), ends)
	tells(t, `<a xmlns:p="u"></a>`, open("a", ""), words(""), declare("p", "u"), ends)
	many := xbuild.New()
	for range 300000 {
		many.Text("é")
	}
	l, e := many.Tokens()
	if e != api.OK || len(l) != 1 || l[0].Text != strings.Repeat("é", 300000) {
		t.Error(len(l), e)
	}
}

func TestString(t *testing.T) { // P14.4: all texts, in order, and no others
	b := xbuild.New()
	for i, x := range []struct {
		step
		deep int
		want string
	}{
		{words("a"), 0, "a"}, {open("e", ""), 1, "a"}, {attr("x", "", "no"), 1, "a"}, {words("b"), 1, "ab"}, {comment("no"), 1, "ab"}, {open("p:f", "u"), 2, "ab"}, {words("c"), 2, "abc"}, {words("d"), 2, "abcd"},
		{ends, 1, "abcd"}, {pi("no", "no"), 1, "abcd"}, {words("e"), 1, "abcde"}, {ends, 0, "abcde"}, {words("f"), 0, "abcdef"}, {open("g", ""), 1, "abcdef"}, {ends, 0, "abcdef"},
	} {
		if e := x.step(b); e != api.OK || b.Deep() != x.deep || b.String() != x.want {
			t.Error(i, e, b.Deep(), b.String())
		}
	}
}

func TestAttributes(t *testing.T) { // P14.2: one of the same Uri and Local is it from then on, at its place
	tells(t, `<a b="3" c="2"></a>`, open("a", ""), attr("b", "", "1"), attr("c", "", "2"), attr("b", "", "3"), ends)
	tells(t, `<a xmlns:p="u" b="1" p:b="2" c="3"></a>`, open("a", ""), attr("b", "", "1"), attr("p:b", "u", "2"), attr("c", "", "3"), ends)
	tells(t, `<a xmlns:p="u" xmlns:q="v" p:b="3" q:b="2"></a>`, open("a", ""), attr("p:b", "u", "1"), attr("q:b", "v", "2"), attr("p:b", "u", "3"), ends)
	// Its prefix too is the new one's.
	tells(t, `<a xmlns:q="u" q:b="2" c=""></a>`, open("a", ""), attr("p:b", "u", "1"), attr("c", "", ""), attr("q:b", "u", "2"), ends)
	tells(t, `<a xml:b="2"></a>`, open("a", ""), attr("xml:b", xmlUri, "1"), attr("xml:b", xmlUri, "2"), ends)
	tells(t, `<a B="2" b="1"></a>`, open("a", ""), attr("B", "", "2"), attr("b", "", "1"), ends)
	// Each element has its own.
	tells(t, `<a b="1"><a b="2"></a></a>`, open("a", ""), attr("b", "", "1"), open("a", ""), attr("b", "", "2"), ends, ends)
	tells(t, `<a xmlns:p="u" p:xmlns="1" xml="2" ns0="3"></a>`, open("a", ""), attr("p:xmlns", "u", "1"), attr("xml", "", "2"), attr("ns0", "", "3"), ends)
}

func noNames() []string {
	return []string{"", "1", "-a", ".", " ", "a b", " a", "a ", "a:b", ":a", "a:", ":", "a\x00", "\xff", "a\xff", "\ufffe", "*", "<", "a>", "\u00d7", "a/"}
}

func noTexts() []string {
	return []string{"\x00", "\x0b", "\x1f", "\xff", "a\xffb", "\ufffe", "\uffff", "x\xed\xa0\x80", "\xe2\x82", "\xf4\x90\x80\x80", "\xc0\x80"}
}

// rightNames are names that elements may have.
func rightNames() []api.Name {
	return []api.Name{
		{Local: "a"}, {Local: "é-._1"}, {Local: "xmlns"}, {Local: "xml"}, {Uri: "u", Local: "a"}, {Uri: "u", Prefix: "p", Local: "a"}, {Uri: " ", Prefix: "é", Local: "xmlns"}, {Uri: xmlUri, Prefix: "xml", Local: "a"},
		{Uri: xmlUri + "/", Prefix: "p", Local: "a"}, {Uri: "&<\r\n\t\"", Local: "a"}, {Uri: "u", Prefix: "Xml", Local: "a"}, {Uri: "u", Prefix: "xmlns1", Local: "a"}, {Uri: "u", Prefix: "ns0", Local: "ns0"}, {Uri: "p", Prefix: "p", Local: "p"},
	}
}

// wrongNames are names that neither elements nor attributes may have.
func wrongNames() []api.Name {
	l := []api.Name{
		{Prefix: "p", Local: "a"}, {Prefix: "xmlns", Local: "a"}, {Uri: "u", Prefix: "xmlns", Local: "a"}, {Uri: xmlUri, Prefix: "xmlns", Local: "a"}, {Uri: "http://www.w3.org/2000/xmlns/", Prefix: "xmlns", Local: "a"},
		{Prefix: "xml", Local: "a"}, {Uri: "u", Prefix: "xml", Local: "a"}, {Uri: xmlUri + "/", Prefix: "xml", Local: "a"}, {Uri: xmlUri, Local: "a"}, {Uri: xmlUri, Prefix: "p", Local: "a"}, {Uri: xmlUri, Prefix: "XML", Local: "a"},
	}
	for _, s := range noNames() {
		l = append(l, api.Name{Local: s}, api.Name{Uri: "u", Local: s}, api.Name{Uri: "u", Prefix: "p", Local: s}, api.Name{Uri: xmlUri, Prefix: "xml", Local: s})
		if s != "" {
			l = append(l, api.Name{Uri: "u", Prefix: s, Local: "a"}, api.Name{Uri: xmlUri, Prefix: s, Local: "a"}, api.Name{Prefix: s, Local: "a"})
		}
	}
	for _, s := range noTexts() {
		l = append(l, api.Name{Uri: s, Local: "a"}, api.Name{Uri: s, Prefix: "p", Local: "a"}, api.Name{Uri: xmlUri + s, Prefix: "xml", Local: "a"})
	}
	return l
}

func opens(n api.Name) step { return func(b *xbuild.Builder) api.Errno { return b.Open(n) } }

func gives(n api.Name, v string) step {
	return func(b *xbuild.Builder) api.Errno { return b.Attr(n, v) }
}

func TestNames(t *testing.T) { // P14.1, P14.2: ErrForm
	at := build(t, open("a", ""), attr("b", "", "1"), declare("p", "w"))
	for _, n := range rightNames() {
		build(t, opens(n), opens(n), ends, ends, opens(n), ends)
		if n.Prefix != "" || n.Uri == "" && n.Local != "xmlns" {
			build(t, open("e", ""), gives(n, ""), ends)
		} else {
			refuses(t, at, api.ErrForm, gives(n, ""))
		}
		build(t, open("e", ""), declare(n.Prefix, n.Uri), ends)
	}
	for _, n := range wrongNames() {
		refuses(t, xbuild.New(), api.ErrForm, opens(n))
		refuses(t, at, api.ErrForm, opens(n))
		refuses(t, at, api.ErrForm, gives(n, "1"))
		refuses(t, xbuild.New(), api.ErrForm, gives(n, "1"))
		// What is wrong there with the Local name plays no part.
		if n.Local == "a" {
			refuses(t, at, api.ErrForm, declare(n.Prefix, n.Uri))
			refuses(t, xbuild.New(), api.ErrForm, declare(n.Prefix, n.Uri))
		}
	}
	build(t, open("e", ""), declare("", ""), ends)
}

func TestTextsThatMayNotBe(t *testing.T) { // P14.2, P14.3: ErrForm
	at := build(t, open("a", ""), attr("b", "", "1"))
	behind := build(t, open("a", ""), words("x"))
	for _, b := range []*xbuild.Builder{xbuild.New(), at, behind} {
		for _, s := range noTexts() {
			refuses(t, b, api.ErrForm, attr("b", "", s))
			refuses(t, b, api.ErrForm, attr("c", "", "x"+s))
			refuses(t, b, api.ErrForm, words(s))
			refuses(t, b, api.ErrForm, words("x"+s+"y"))
			refuses(t, b, api.ErrForm, comment(s))
			refuses(t, b, api.ErrForm, pi("p", s))
		}
		for _, s := range []string{"-", "--", "a--b", "a-", "--a", "---", "-->", "a--"} {
			refuses(t, b, api.ErrForm, comment(s))
		}
		for _, s := range []string{"?>", "a?>", "?>a", "??>", " ", " a", "\ta", "\na", "\ra"} {
			refuses(t, b, api.ErrForm, pi("p", s))
		}
		for _, s := range append(noNames(), "xml", "XML", "xMl", "p:q", "xml:a") {
			refuses(t, b, api.ErrForm, pi(s, ""))
			refuses(t, b, api.ErrForm, pi(s, "x"))
		}
	}
	tells(t, `<!-- - a- b--><!--?>--><!--&--><?p ? >?><?p ??><?xmlx a ?><?ixml <>?>`, comment(" - a- b"), comment("?>"), comment("&"), pi("p", "? >"), pi("p", "?"), pi("xmlx", "a "), pi("ixml", "<>"))
	// Their length is not looked at.
	long := strings.Repeat("x", 2*api.MaxText)
	b := build(t, comment(long), pi("p", long), pi(long, ""), words(long), words(long), open(long, long), attr("a", "", long), ends)
	if l, e := b.Tokens(); e != api.OK || len(l) != 6 || len(l[3].Text) != 2*len(long) {
		t.Error(len(l), e)
	}
	for _, s := range []string{long + "--", long + "-", long + "\x00"} {
		refuses(t, b, api.ErrForm, comment(s))
	}
	for _, s := range []string{long + "?>", " " + long, long + "\x00"} {
		refuses(t, b, api.ErrForm, pi("p", s))
	}
}

func TestPlaces(t *testing.T) { // P14.1, P14.2, P14.4: ErrBuild
	for _, l := range [][]step{
		{}, {words("x")}, {open("a", ""), ends}, {comment("c")}, // No element is open.
		{open("a", ""), words("x")}, {open("a", ""), comment("")}, {open("a", ""), pi("p", "")}, {open("a", ""), open("b", ""), ends}, {open("a", ""), attr("b", "", "1"), words("x"), words("")}, // Something is in it already.
		{open("a", ""), open("b", ""), words("x")}, {open("a", ""), open("b", ""), open("c", ""), ends},
	} {
		b := build(t, l...)
		refuses(t, b, api.ErrBuild, attr("b", "", "2"))
		refuses(t, b, api.ErrBuild, attr("p:b", "u", "2"))
		refuses(t, b, api.ErrBuild, declare("p", "u"))
		refuses(t, b, api.ErrBuild, declare("", ""))
		refuses(t, b, api.ErrBuild, declare("xml", xmlUri))
		refuses(t, b, api.ErrForm, attr("1", "", "2"))
		refuses(t, b, api.ErrForm, attr("b", "", "\x00"))
		refuses(t, b, api.ErrForm, declare("p", ""))
		if b.Deep() == 0 {
			refuses(t, b, api.ErrBuild, ends)
			continue
		}
		for b.Deep() > 0 {
			if l, e := b.Tokens(); len(l) != 0 || e != api.ErrBuild {
				t.Error(l, e)
			}
			b.Close()
		}
		if l, e := b.Tokens(); len(l) == 0 || e != api.OK {
			t.Error(l, e)
		}
		refuses(t, b, api.ErrBuild, ends)
	}
	// What is around is no matter.
	tells(t, `[x]<a>[y]<b c="1" d="2"></b></a>`, words("x"), open("a", ""), words("y"), open("b", ""), attr("c", "", "1"), attr("d", "", "2"), ends, ends)
}

func TestTokensGoesOn(t *testing.T) { // P14.4: what was told can be built on, and is told again
	b := xbuild.New()
	want := ""
	for _, s := range []string{"a", "b", "c"} {
		b.Open(named("p:"+s, "u"))
		b.Declare("p", "v")
		b.Declare("", "w")
		b.Text("x")
		b.Close()
		b.Text(s)
		want += `<ns0:` + s + ` xmlns="w" xmlns:ns0="u" xmlns:p="v">[x]</ns0:` + s + `>[` + s + `]`
		for range 2 {
			if l, e := b.Tokens(); e != api.OK || written(l) != want {
				t.Error(written(l), e)
			}
		}
	}
}

func TestNil(t *testing.T) { // P1
	var b *xbuild.Builder
	for i, s := range []step{open("a", ""), open("", ""), ends, attr("b", "", "1"), attr("", "", ""), attr("b", "", "\x00"), words("x"), words(""), words("\x00"), comment("x"), comment("-"), pi("p", ""), pi("", ""), declare("p", "u"), declare("p", ""), declare("", "")} {
		if e := s(b); e != api.ErrNil {
			t.Error(i, e)
		}
	}
	if l, e := b.Tokens(); len(l) != 0 || e != api.ErrNil {
		t.Error(l, e)
	}
	if b.Deep() != 0 || b.String() != "" || b.Fork() != nil {
		t.Error("of nil something")
	}
}

func TestTokensAreTheCallers(t *testing.T) { // P3
	b := build(t, open("p:a", "u"), attr("p:b", "v", "1"), attr("c", "", "2"), words("x"), comment("c"), pi("p", "q"), open("d", ""), declare("e", "w"), ends, ends)
	want := state(b)
	first, _ := b.Tokens()
	second, _ := b.Tokens()
	for i := range first {
		l := first[i].Attrs
		clear(l[:cap(l)])
		first[i] = api.Token{Name: "changed"}
	}
	clear(first[:cap(first)])
	if "0 \"x\" "+written(second) != want || state(b) != want {
		t.Error(written(second), state(b), want)
	}
	// No two lists of one answer lie in each other.
	var l []api.Pair
	for i := range second {
		if x := second[i].Attrs; len(x) > 0 {
			l = x
			_ = append(l, api.Pair{Name: "spare"})
		}
	}
	if "0 \"x\" "+written(second) != want {
		t.Error(written(second))
	}
}

func TestFork(t *testing.T) { // P4, P14.4
	all := []step{
		words("x"), open("p:a", "u"), declare("q", "w"), attr("p:b", "v", "1"), attr("c", "", "2"), open("d", ""), words("y"), words("z"), comment("c"), open("e", "u"), declare("", "r"), attr("f", "", ""), ends, words("g"), ends, pi("h", "i"), ends, words("j"), open("k", ""), ends,
	}
	others := []step{open("o", "w"), ends, attr("c", "", "other"), attr("n", "", "new"), attr("p:b", "v", "other"), words("other"), comment("other"), pi("other", "other"), declare("q", "other"), declare("m", "other"), declare("", "")}
	for n := range len(all) + 1 {
		want := state(build(t, all...))
		here := state(build(t, all[:n]...))
		for _, other := range others {
			b := build(t, all[:n]...)
			f := b.Fork()
			if state(f) != here {
				t.Fatal(n, state(f), here)
			}
			// What becomes of the Fork changes nothing of the builder, and the other way about.
			other(f)
			f.Close()
			f.Text("more")
			if state(b) != here {
				t.Fatal(n, state(b), here)
			}
			f = b.Fork()
			other(b)
			b.Close()
			b.Text("more")
			if state(f) != here {
				t.Fatal(n, state(f), here)
			}
			for _, s := range all[n:] {
				if e := s(f); e != api.OK {
					t.Fatal(n, e)
				}
			}
			if state(f) != want {
				t.Fatal(n, state(f), want)
			}
		}
	}
	b := build(t, words("x"))
	f := b.Fork().Fork()
	b.Text("y")
	f.Text("z")
	if b.String() != "xy" || f.String() != "xz" {
		t.Error(b.String(), f.String())
	}
}

func TestForkOfWords(t *testing.T) { // P4: texts that go on share no room
	b := xbuild.New()
	for range 100 {
		b.Text("abc")
		f := b.Fork()
		g := b.Fork()
		f.Text("1")
		g.Text("2")
		b.Text("3")
		if s := b.String(); f.String() != s[:len(s)-1]+"1" || g.String() != s[:len(s)-1]+"2" || !strings.HasSuffix(s, "3") {
			t.Fatal(s, f, g)
		}
	}
}

// filled is a builder with n nodes in the element that is open.
func filled(t testing.TB, n int) *xbuild.Builder {
	t.Helper()
	b := build(t, open("a", ""))
	for range n - 1 {
		if e := b.Comment(""); e != api.OK {
			t.Fatal(e)
		}
	}
	return b
}

func TestMaxDeep(t *testing.T) { // P14.1: ErrLimit
	b := xbuild.New()
	for range 3 {
		for n := range api.MaxDeep {
			if e := b.Open(named("p:a", "u")); e != api.OK || b.Deep() != n+1 {
				t.Fatal(n, e)
			}
		}
		refuses(t, b, api.ErrLimit, open("a", ""))
		refuses(t, b, api.ErrForm, open("1", ""))
		for _, s := range []step{declare("q", "w"), attr("b", "", "1"), words("x"), comment(""), pi("p", ""), words("y")} {
			if e := s(b); e != api.OK {
				t.Error(e)
			}
		}
		refuses(t, b, api.ErrLimit, open("a", ""))
		b.Close()
		if e := b.Open(named("b", "")); e != api.OK {
			t.Error(e)
		}
		for b.Deep() > 0 {
			b.Close()
		}
	}
}

func TestMaxNodes(t *testing.T) { // P14.1 to P14.3: ErrLimit
	for name, make := range map[string]func() *xbuild.Builder{
		"comments": func() *xbuild.Builder { return filled(t, api.MaxNodes-1) },
		"elements": func() *xbuild.Builder {
			b := build(t, open("a", ""))
			for range api.MaxNodes - 2 {
				b.Open(named("b", "u"))
				b.Declare("p", "u")
				b.Close()
			}
			return b
		},
		"attributes": func() *xbuild.Builder {
			b := build(t, open("a", ""))
			for range api.MaxNodes/4 - 1 {
				for _, s := range []step{open("b", ""), attr("c", "", ""), attr("p:c", "u", ""), attr("d", "", ""), ends} {
					s(b)
				}
			}
			return buildOn(t, b, comment(""), comment(""))
		},
		"texts": func() *xbuild.Builder {
			b := xbuild.New()
			for range api.MaxNodes/2 - 1 {
				for _, s := range []step{words("x"), words("y"), words(""), pi("p", "")} {
					s(b)
				}
			}
			return buildOn(t, b, open("a", ""))
		},
	} {
		for i, last := range []step{open("b", ""), words("x"), comment("c"), pi("p", "")} {
			b := buildOn(t, make(), last)
			for _, s := range []step{open("b", ""), comment("c"), pi("p", "")} {
				refuses(t, b, api.ErrLimit, s)
			}
			if i == 1 {
				// The text that is the last node goes on.
				buildOn(t, b, words("y"), words(""))
			} else {
				refuses(t, b, api.ErrLimit, words("x"))
				buildOn(t, b, words(""))
			}
			refuses(t, b, api.ErrForm, open("1", ""))
			refuses(t, b, api.ErrForm, words("\x00"))
			refuses(t, b, api.ErrForm, comment("-"))
			refuses(t, b, api.ErrForm, pi("1", ""))
			for b.Deep() > 0 {
				b.Close()
			}
			l, e := b.Tokens()
			nodes := 0
			for _, x := range l {
				if x.Kind != api.End {
					nodes++
				}
				nodes += len(slices.DeleteFunc(slices.Clone(x.Attrs), func(a api.Pair) bool { return strings.HasPrefix(a.Name, "xmlns") }))
			}
			if e != api.OK || nodes != api.MaxNodes {
				t.Error(name, nodes, e)
			}
		}
	}
}

func TestMaxNodesOfAttributes(t *testing.T) { // P14.2: ErrLimit, of attributes too
	b := filled(t, api.MaxNodes-2)
	buildOn(t, b, open("b", ""), attr("c", "", "1"))
	refuses(t, b, api.ErrLimit, attr("d", "", "2"))
	refuses(t, b, api.ErrLimit, open("d", ""))
	refuses(t, b, api.ErrForm, attr("1", "", "2"))
	// None more: what is there is changed, prefixes are declared.
	buildOn(t, b, attr("c", "", "3"), declare("p", "u"), ends)
	refuses(t, b, api.ErrBuild, attr("d", "", "2"))
	buildOn(t, b, ends)
	l, e := b.Tokens()
	if e != api.OK || !strings.HasSuffix(written(l), `<b xmlns:p="u" c="3"></b></a>`) {
		t.Error(e)
	}
	f := b.Fork()
	refuses(t, f, api.ErrLimit, words("x"))
}

func TestMaxAttrs(t *testing.T) { // P14.2: ErrLimit
	for range 2 {
		b := build(t, open("a", ""))
		for i := range api.MaxAttrs {
			uri := fmt.Sprint("u", i%3)
			if e := b.Attr(named(fmt.Sprint("p", i%3, ":a", i), uri), "1"); e != api.OK {
				t.Fatal(i, e)
			}
		}
		refuses(t, b, api.ErrLimit, attr("b", "", ""))
		refuses(t, b, api.ErrLimit, attr("p1:a0", "u1", ""))
		refuses(t, b, api.ErrForm, attr("b", "", "\x00"))
		buildOn(t, b, attr("q:a1", "u1", "2"), attr("p0:a63", "u0", "3"))
		for i := range 200 {
			if e := b.Declare(fmt.Sprint("d", i), "w"); e != api.OK {
				t.Fatal(e)
			}
		}
		buildOn(t, b, open("b", ""), attr("c", "", ""), ends)
		refuses(t, b, api.ErrBuild, attr("b", "", ""))
		buildOn(t, b, ends)
		l, e := b.Tokens()
		if e != api.OK || len(l[0].Attrs) != api.MaxAttrs+200+4 || l[0].Attrs[204+1] != (api.Pair{Name: "q:a1", Value: "2"}) {
			t.Error(len(l[0].Attrs), e)
		}
	}
}

func TestOddArguments(t *testing.T) { // P1: any texts end, and no call of them panics
	odd := []string{"", "a", "\x00", "\xff\xfe", strings.Repeat("a", 100000), strings.Repeat("\xff", 1000), "a:b", "xml", "xmlns", xmlUri, string(rune(math.MaxInt32)), "]]>", "<!--", "ns0"}
	for _, x := range odd {
		for _, y := range odd {
			b := xbuild.New()
			b.Text(x)
			b.Comment(y)
			b.Pi(x, y)
			b.Declare(x, y)
			for _, z := range odd {
				n := api.Name{Uri: x, Prefix: y, Local: z}
				if b.Open(n) == api.OK {
					b.Attr(n, z)
					b.Declare(y, x)
					b.Close()
				}
			}
			if _, e := b.Tokens(); e != api.OK {
				t.Fatal(e)
			}
		}
	}
}
