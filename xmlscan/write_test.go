package xmlscan_test

import (
	"fmt"
	"math/rand"
	"reflect"
	"strings"
	"testing"

	"stencil/api"
	"stencil/xmlscan"
)

func element(name string, attrs ...string) api.Token {
	x := api.Token{Kind: api.Element, Name: name}
	for i := 0; i+1 < len(attrs); i += 2 {
		x.Attrs = append(x.Attrs, api.Pair{Name: attrs[i], Value: attrs[i+1]})
	}
	return x
}

func end(name string) api.Token      { return api.Token{Kind: api.End, Name: name} }
func text(s string) api.Token        { return api.Token{Kind: api.Text, Text: s} }
func comment(s string) api.Token     { return api.Token{Kind: api.Comment, Text: s} }
func instr(name, s string) api.Token { return api.Token{Kind: api.Pi, Name: name, Text: s} }
func within(l ...api.Token) []api.Token {
	return append(append([]api.Token{element("a")}, l...), end("a"))
}

func TestEscapeAndQuote(t *testing.T) { // P3.2
	escape := strings.NewReplacer("&", "&amp;", "<", "&lt;", ">", "&gt;", "\r", "&#13;")
	quote := strings.NewReplacer("&", "&amp;", "<", "&lt;", `"`, "&quot;", "\t", "&#9;", "\n", "&#10;", "\r", "&#13;")
	texts := append(oddTexts(), "a&b<c>d\"e'f\tg\nh\ri", "&amp;", "]]>", "é<ü")
	for c := range 256 {
		texts = append(texts, string([]byte{byte(c)}), "x"+string([]byte{byte(c)})+"y", string(rune(c)))
	}
	for _, s := range texts {
		if got, want := xmlscan.Escape(s), escape.Replace(s); got != want {
			t.Errorf("Escape(%.100q) = %.100q, want %.100q", s, got, want)
		}
		if got, want := xmlscan.Quote(s), quote.Replace(s); got != want {
			t.Errorf("Quote(%.100q) = %.100q, want %.100q", s, got, want)
		}
	}
}

func TestWrite(t *testing.T) { // P3.2
	for want, l := range map[string][]api.Token{
		"<a></a>":       within(),
		"<a>x</a>":      within(text("x")),
		"<a:b></a:b>":   {element("a:b"), end("a:b")},
		`<a b="1"></a>`: {element("a", "b", "1"), end("a")},
		`<a c="" b:c="'>&amp;&lt;&quot;&#9;&#10;&#13; é"></a>`: {element("a", "c", "", "b:c", "'>&<\"\t\n\r é"), end("a")},
		"<a>'\"&amp;&lt;&gt;\t\n&#13; ]]&gt;é</a>":             within(text("'\"&<>\t\n\r ]]>é")),
		"<a><!--c--></a>":                             within(comment("c")),
		"<a><!----></a>":                              within(comment("")),
		"<a><!--&<>\"\t\n\r - --></a>":                within(comment("&<>\"\t\n\r - ")),
		"<a><?p q?></a>":                              within(instr("p", "q")),
		"<a><?p?></a>":                                within(instr("p", "")),
		"<a><?p q ??></a>":                            within(instr("p", "q ?")),
		"<a><?xmlx ?<>&\n?></a>":                      within(instr("xmlx", "?<>&\n")),
		"<!--c--><?p?><!--d--><a></a><?q r?><!--e-->": {comment("c"), instr("p", ""), comment("d"), element("a"), end("a"), instr("q", "r"), comment("e")},
		"<a>x<!--c-->y<b>z</b>w</a>":                  within(text("x"), comment("c"), text("y"), element("b"), text("z"), end("b"), text("w")),
		"<a><a><a></a></a><a></a></a>":                within(element("a"), element("a"), end("a"), end("a"), element("a"), end("a")),
	} {
		if got, e := xmlscan.Write(l...); got != want || e != api.OK {
			t.Errorf("Write(%s) = %q, %d, want %q", show(l), got, e, want)
		}
	}
}

func TestWriteWrong(t *testing.T) { // P3.2: tokens that are those of no document; P1: tokens that are none
	wrong := [][]api.Token{
		nil, {}, {comment("c")}, {element("a")}, {end("a")}, {text("x")}, {element("a"), end("b")}, {element("a"), end("")}, {end("a"), element("a")},
		{element("a"), end("a"), end("a")}, {element("a"), end("a"), element("b"), end("b")}, {element("a"), element("b"), end("a"), end("b")},
		{text("x"), element("a"), end("a")}, {element("a"), end("a"), text(" ")}, {element("a"), element("b"), end("b")},
		within(text("")), within(text("x"), text("y")), within(text("x"), text("")), {element("a"), {Kind: api.End}},
	}
	for _, s := range []string{"", "1", "-a", "a b", "a:", ":a", "a:b:c", "a>", " a", "a ", "é!", "\xff", "a\x00", "a\xff"} {
		wrong = append(wrong, []api.Token{element(s), end(s)}, []api.Token{element("a", s, ""), end("a")}, within(instr(s, "")), within(element(s), end(s)))
	}
	for _, s := range []string{"\x00", "\x0b", "\xff", "\ufffe", "\uffff", "x\xed\xa0\x80", "\xe2\x82", "\x1f"} {
		wrong = append(wrong, within(text(s)), within(comment(s)), within(instr("p", s)), []api.Token{element("a", "b", s), end("a")})
	}
	for _, s := range []string{"-", "--", "a--b", "a-", "--a", "-->"} {
		wrong = append(wrong, within(comment(s)), []api.Token{comment(s), element("a"), end("a")})
	}
	for _, s := range []string{" ", "\t", "\nq", "\rq", " q", "?>", "q?>", "?>q"} {
		wrong = append(wrong, within(instr("p", s)), []api.Token{element("a"), end("a"), instr("p", s)})
	}
	for _, s := range []string{"xml", "XML", "xMl", "a:b"} {
		wrong = append(wrong, within(instr(s, "")), within(instr(s, "q")))
	}
	wrong = append(wrong, []api.Token{element("a", "b", "1", "b", "2"), end("a")}, []api.Token{element("a", "b:c", "", "d", "", "b:c", ""), end("a")})
	for _, kind := range []api.Kind{api.NoKind, api.Root, api.Attr, api.End + 1, -1, 1 << 40} {
		wrong = append(wrong, within(api.Token{Kind: kind, Name: "a", Text: "x"}), within(api.Token{Kind: kind}))
	}
	// What the kind of a token has not, it has not.
	attrs := []api.Pair{{Name: "b", Value: "1"}}
	for _, x := range []api.Token{{Kind: api.Text, Text: "x", Name: "n"}, {Kind: api.Text, Text: "x", Attrs: attrs}, {Kind: api.Comment, Name: "n"},
		{Kind: api.Comment, Attrs: attrs}, {Kind: api.Pi, Name: "p", Attrs: attrs}} {
		wrong = append(wrong, within(x))
	}
	wrong = append(wrong, []api.Token{{Kind: api.Element, Name: "a", Text: "x"}, end("a")}, []api.Token{element("a"), {Kind: api.End, Name: "a", Text: "x"}},
		[]api.Token{element("a"), {Kind: api.End, Name: "a", Attrs: attrs}})
	for _, l := range wrong {
		if got, e := xmlscan.Write(l...); got != "" || e != api.ErrForm {
			t.Errorf("Write(%+v) = %.100q, %d, want ErrForm", l, got, e)
		}
	}
}

// nested is n elements in each other.
func nested(n int) []api.Token {
	var l []api.Token
	for range n {
		l = append(l, element("a"))
	}
	for range n {
		l = append(l, end("a"))
	}
	return l
}

// crowded is an element with n attributes.
func crowded(n int) []api.Token {
	x := element("a")
	for i := range n {
		x.Attrs = append(x.Attrs, api.Pair{Name: fmt.Sprint("a", i)})
	}
	return []api.Token{x, end("a")}
}

// listed is n tokens.
func listed(n int) []api.Token {
	var l []api.Token
	for range n - 2 {
		l = append(l, comment(""))
	}
	return append(l, element("a"), end("a"))
}

// sized is tokens whose text has n bytes.
func sized(n int) []api.Token { return within(text(strings.Repeat("x", n-len("<a></a>")))) }

func TestWriteLimits(t *testing.T) { // P3.2: ErrLimit, and behind ErrForm
	for most, make := range map[int]func(int) []api.Token{api.MaxDeep: nested, api.MaxAttrs: crowded, api.MaxNodes: listed, api.MaxText: sized} {
		if got, e := xmlscan.Write(make(most)...); e != api.OK || got == "" {
			t.Error(most, e)
		}
		over := make(most + 1)
		if got, e := xmlscan.Write(over...); e != api.ErrLimit || got != "" {
			t.Error(most, e)
		}
		if got, e := xmlscan.Write(append(over, text("x"))...); e != api.ErrForm || got != "" {
			t.Error(most, e)
		}
	}
	// What is written counts, not what it was.
	if got, e := xmlscan.Write(within(text(strings.Repeat("&", (api.MaxText-7)/5)))...); e != api.OK || len(got) > api.MaxText {
		t.Error(e)
	}
	if got, e := xmlscan.Write(within(text(strings.Repeat("&", (api.MaxText-7)/5+1)))...); e != api.ErrLimit || got != "" {
		t.Error(e)
	}
	// As deep as that, several times.
	l := append(append([]api.Token{element("b")}, nested(api.MaxDeep-1)...), nested(api.MaxDeep-1)...)
	if _, e := xmlscan.Write(append(l, end("b"))...); e != api.OK {
		t.Error(e)
	}
}

// oddTexts are texts of any bytes.
func oddTexts() []string {
	l := []string{"", " ", "\x00", "\xff", "\xc0\x80", "\xed\xa0\x80", "\xe2\x82", "\ufffd", "\ufffe", "&", "<", ">", "\r\n", "😀", strings.Repeat("<", api.MaxText+1)}
	chance := rand.New(rand.NewSource(2))
	for range 300 {
		b := make([]byte, chance.Intn(12))
		for i := range b {
			b[i] = byte(chance.Intn(256))
		}
		l = append(l, string(b))
	}
	return l
}

// clone is tokens that share nothing with others, and have spare room behind their ends.
func clone(l []api.Token) []api.Token {
	other := make([]api.Token, len(l), len(l)+3)
	for i, x := range l {
		other[i] = x
		if x.Attrs != nil {
			other[i].Attrs = append(make([]api.Pair, 0, len(x.Attrs)+3), x.Attrs...)
			spare := other[i].Attrs[:len(x.Attrs)+1]
			spare[len(x.Attrs)] = api.Pair{Name: "spare"}
		}
	}
	other[:len(l)+1][len(l)] = text("spare")
	return other
}

func TestWriteTokensStay(t *testing.T) { // P3
	for _, l := range [][]api.Token{{element("a", "b", "\"&", "c", "2"), text("<"), end("a")}, {element("a", "b", "", "b", ""), end("a")}, nested(api.MaxDeep + 1)} {
		mine, kept := clone(l), clone(l)
		got, e := xmlscan.Write(mine...)
		again, e2 := xmlscan.Write(mine...)
		if got != again || e != e2 || !reflect.DeepEqual(mine[:len(l)+1], kept[:len(l)+1]) {
			t.Error(show(l), got, again, e, e2)
		}
		for i := range l {
			if n := len(l[i].Attrs); n > 0 && mine[i].Attrs[:n+1][n].Name != "spare" {
				t.Error("spare room is written to")
			}
		}
	}
}
