package xout_test

import (
	"slices"
	"strings"
	"testing"
	"unicode/utf16"

	"stencil/api"
	"stencil/xout"
)

func TestWrite(t *testing.T) { // P10.2: of each method
	odd := "'>&<\"\t\n\r é"
	for _, c := range []struct {
		l                []api.Token
		xml, html, plain string
	}{
		{nil, "", "", ""},
		{in("a"), "<a/>", "<a></a>", ""},
		{in("a:b"), "<a:b/>", "<a:b></a:b>", ""},
		{in("a", text("x")), "<a>x</a>", "<a>x</a>", "x"},
		{[]api.Token{text("x")}, "x", "x", "x"},
		{[]api.Token{text(odd)}, "'&gt;&amp;&lt;\"\t\n&#13; é", "'&gt;&amp;&lt;\"\t\n&#13; é", odd},
		{in("a", text("]]>")), "<a>]]&gt;</a>", "<a>]]&gt;</a>", "]]>"},
		{[]api.Token{element("a", "b", odd), end("a")}, `<a b="'>&amp;&lt;&quot;&#9;&#10;&#13; é"/>`, "<a b=\"'>&amp;<&quot;\t\n\r é\"></a>", ""},
		{[]api.Token{element("a", "b", "", "c:d", "&amp;"), text("x"), end("a")}, `<a b="" c:d="&amp;amp;">x</a>`, `<a b="" c:d="&amp;amp;">x</a>`, "x"},
		{in("a", comment("c")), "<a><!--c--></a>", "<a><!--c--></a>", ""},
		{[]api.Token{comment(""), comment("&<>\"\r - ")}, "<!----><!--&<>\"\r - -->", "<!----><!--&<>\"\r - -->", ""},
		{in("a", instr("p", "q")), "<a><?p q?></a>", "<a><?p q></a>", ""},
		{[]api.Token{instr("p", ""), instr("xmlx", "&<\" ?")}, "<?p?><?xmlx &<\" ??>", "<?p><?xmlx &<\" ?>", ""},
		{slices.Concat([]api.Token{text("x")}, in("a", text("y")), []api.Token{text("z")}, in("b")), "x<a>y</a>z<b/>", "x<a>y</a>z<b></b>", "xyz"},
		{in("a", in("b", in("c")...)...), "<a><b><c/></b></a>", "<a><b><c></c></b></a>", ""},
		{in("a", slices.Concat(in("b"), in("b"))...), "<a><b/><b/></a>", "<a><b></b><b></b></a>", ""},
		{in("a", text("x"), comment("c"), text("y"), instr("p", ""), text("z")), "<a>x<!--c-->y<?p?>z</a>", "<a>x<!--c-->y<?p>z</a>", "xyz"},
		// Void elements
		{in("br"), "<br/>", "<br>", ""},
		{in("BR"), "<BR/>", "<BR>", ""},
		{in("h:br"), "<h:br/>", "<h:br></h:br>", ""},
		{in("h:br", text("x")), "<h:br>x</h:br>", "<h:br>x</h:br>", "x"},
		{[]api.Token{element("Img", "src", "a&b", "alt", "<"), end("Img")}, `<Img src="a&amp;b" alt="&lt;"/>`, `<Img src="a&amp;b" alt="<">`, ""},
		{slices.Concat([]api.Token{text("x")}, in("br"), []api.Token{text("y")}, in("hr"), in("wbr")), "x<br/>y<hr/><wbr/>", "x<br>y<hr><wbr>", "xy"},
		{in("p", in("br")...), "<p><br/></p>", "<p><br></p>", ""},
		// Raw elements
		{in("script", text("a<b")), "<script>a&lt;b</script>", "<script>a<b</script>", "a<b"},
		{in("STYLE", text("a>b&c\r\"<!--")), "<STYLE>a&gt;b&amp;c&#13;\"&lt;!--</STYLE>", "<STYLE>a>b&c\r\"<!--</STYLE>", "a>b&c\r\"<!--"},
		{in("script"), "<script/>", "<script></script>", ""},
		{in("script", text("< /a> <\\/ <")), "<script>&lt; /a&gt; &lt;\\/ &lt;</script>", "<script>< /a> <\\/ <</script>", "< /a> <\\/ <"},
		{[]api.Token{element("style", "a", "<&"), text("&amp;"), end("style"), text("&")}, `<style a="&lt;&amp;">&amp;amp;</style>&amp;`, `<style a="<&amp;">&amp;</style>&amp;`, "&amp;&"},
		{in("h:script", text("a<b")), "<h:script>a&lt;b</h:script>", "<h:script>a&lt;b</h:script>", "a<b"},
		{in("h:script", text("</a>")), "<h:script>&lt;/a&gt;</h:script>", "<h:script>&lt;/a&gt;</h:script>", "</a>"},
		{in("h:style", comment("c"), text("<")), "<h:style><!--c-->&lt;</h:style>", "<h:style><!--c-->&lt;</h:style>", "<"},
		{slices.Concat(in("script", text("&")), []api.Token{text("&")}, in("b", text("&"))), "<script>&amp;</script>&amp;<b>&amp;</b>", "<script>&</script>&amp;<b>&amp;</b>", "&&&"},
		// Short attributes
		{[]api.Token{element("input", "checked", "checked"), end("input")}, `<input checked="checked"/>`, "<input checked>", ""},
		{[]api.Token{element("option", "selected", "selected", "value", "selected", "disabled", "disabled"), text("x"), end("option")}, `<option selected="selected" value="selected" disabled="disabled">x</option>`, `<option selected value="selected" disabled>x</option>`, "x"},
		{[]api.Token{element("a", "checked", "", "nowrap", "true", "defer", "x"), end("a")}, `<a checked="" nowrap="true" defer="x"/>`, `<a checked="" nowrap="true" defer="x"></a>`, ""},
		{[]api.Token{element("a", "CHECKED", "CHECKED", "Defer", "Defer"), end("a")}, `<a CHECKED="CHECKED" Defer="Defer"/>`, `<a CHECKED Defer></a>`, ""},
		{[]api.Token{element("a", "CHECKED", "checked", "defer", "DEFER"), end("a")}, `<a CHECKED="checked" defer="DEFER"/>`, `<a CHECKED="checked" defer="DEFER"></a>`, ""},
		{[]api.Token{element("h:a", "h:checked", "h:checked", "checked", "checked", "x", "x"), end("h:a")}, `<h:a h:checked="h:checked" checked="checked" x="x"/>`, `<h:a h:checked="h:checked" checked x="x"></h:a>`, ""},
	} {
		for m, want := range map[api.Method]string{api.Xml: c.xml, api.Html: c.html, api.Plain: c.plain} {
			if got, e := xout.Write(m, c.l...); got != want || e != api.OK {
				t.Errorf("%d of %+v: %q, %d, want %q", m, c.l, got, e, want)
			}
		}
	}
}

func TestWriteRight(t *testing.T) { // P10.2: all that is right, but for what html has no sign for
	for _, l := range right() {
		for _, m := range []api.Method{api.Xml, api.Plain} {
			if _, e := xout.Write(m, l...); e != api.OK {
				t.Errorf("%d of %+v: %d", m, l, e)
			}
		}
	}
}

func TestWriteNoHtml(t *testing.T) { // P10.2: ErrForm, of Html alone
	for _, l := range [][]api.Token{
		in("br", text("x")), in("br", text(" ")), in("br", comment("")), in("br", instr("p", "")), in("br", in("a")...), in("br", in("br")...), in("Hr", text("x")), in("p", in("br", text("x"))...), slices.Concat(in("br"), in("br", text("x"))),
		in("script", comment("x")), in("script", instr("p", "")), in("script", in("a")...), in("script", in("br")...), in("script", text("x"), comment("y")), in("script", comment("y"), text("x")), in("script", slices.Concat([]api.Token{text("x")}, in("b"))...), in("STYLE", in("style")...), in("script", text("x"), instr("p", ""), text("y")),
		in("script", text("</")), in("script", text("a</b")), in("style", text("x</style>y")), in("Style", text("<</")), in("script", text("</ ")), in("p", in("script", text("</"))...), slices.Concat(in("script", text("x")), in("script", text("</"))),
		{instr("p", ">")}, {instr("p", "a>b")}, in("a", instr("p", "x >")), in("a", instr("p", "->x")), {instr("p", "q"), instr("p", ">")},
	} {
		if got, e := xout.Write(api.Html, l...); got != "" || e != api.ErrForm {
			t.Errorf("%+v: %q, %d", l, got, e)
		}
		if got, e := xout.Bytes(api.Html, false, l...); len(got) != 0 || e != api.ErrForm {
			t.Errorf("%+v: %q, %d", l, got, e)
		}
		for _, m := range []api.Method{api.Xml, api.Plain} {
			if _, e := xout.Write(m, l...); e != api.OK {
				t.Errorf("%d of %+v: %d", m, l, e)
			}
		}
	}
}

func TestWriteLimits(t *testing.T) { // P10.2: ErrLimit by the bytes that are written
	long := func(n int, s string) string { return strings.Repeat(s, n) }
	for _, c := range []struct {
		m    api.Method
		make func(n int) []api.Token
		most int
	}{
		{api.Plain, func(n int) []api.Token { return in("a", text(long(n, "<"))) }, api.MaxText},
		{api.Plain, func(n int) []api.Token { return []api.Token{text(long(n-1, "x")), comment(""), text("y")} }, api.MaxText},
		{api.Plain, func(n int) []api.Token { return []api.Token{text(long(n, "é"))} }, api.MaxText / 2},
		{api.Xml, func(n int) []api.Token { return []api.Token{text(long(n, "x"))} }, api.MaxText},
		{api.Xml, func(n int) []api.Token { return in("a", text(long(n, "&"))) }, (api.MaxText - 7) / 5},
		{api.Xml, func(n int) []api.Token { return in(long(n, "a")) }, api.MaxText - len("</>")},
		{api.Xml, func(n int) []api.Token { return []api.Token{comment(long(n, "<"))} }, api.MaxText - len("<!---->")},
		{api.Xml, func(n int) []api.Token { return []api.Token{instr("p", long(n, "<"))} }, api.MaxText - len("<?p ?>")},
		{api.Html, func(n int) []api.Token { return []api.Token{instr("p", long(n, "<"))} }, api.MaxText - len("<?p >")},
		{api.Html, func(n int) []api.Token { return in("style", text(long(n, "<"))) }, api.MaxText - len("<style></style>")},
		{api.Html, func(n int) []api.Token { return in(long(n, "a")) }, (api.MaxText - len("<></>")) / 2},
		{api.Html, func(n int) []api.Token { return []api.Token{element("br", "a", long(n, "<")), end("br")} }, api.MaxText - len(`<br a="">`)},
	} {
		if got, e := xout.Write(c.m, c.make(c.most)...); e != api.OK || len(got) > api.MaxText || len(got) < api.MaxText-5 {
			t.Error(c.m, c.most, len(got), e)
		}
		over := c.make(c.most + 1)
		if got, e := xout.Write(c.m, over...); e != api.ErrLimit || got != "" {
			t.Error(c.m, c.most, e)
		}
		for _, wide := range []bool{false, true} {
			if got, e := xout.Bytes(c.m, wide, over...); e != api.ErrLimit || len(got) != 0 {
				t.Error(c.m, c.most, e)
			}
		}
	}
	// What is not written does not count.
	if got, e := xout.Write(api.Plain, in(long(api.MaxText, "a"), comment(long(api.MaxText, "x")))...); got != "" || e != api.OK {
		t.Error(e)
	}
}

func TestWriteFirstError(t *testing.T) { // P10.2, P2: the order of errors
	huge := text(strings.Repeat("x", api.MaxText+1))
	for _, c := range []struct {
		m    api.Method
		l    []api.Token
		want api.Errno
	}{
		{-1, nil, api.ErrRange}, {3, nil, api.ErrRange}, {-1 << 63, in("a"), api.ErrRange}, {1<<63 - 1, in("a"), api.ErrRange}, {3, wrong()[0], api.ErrRange}, {-1, nested(api.MaxDeep + 1), api.ErrRange}, {3, []api.Token{huge}, api.ErrRange},
		{api.Html, append(nested(api.MaxDeep+1), end("a")), api.ErrForm}, {api.Html, slices.Concat(nested(api.MaxDeep+1), in("br", text("x"))), api.ErrLimit}, {api.Html, slices.Concat(in("br", text("x")), crowded(api.MaxAttrs+1)), api.ErrLimit},
		{api.Html, in("br", huge), api.ErrForm}, {api.Html, slices.Concat([]api.Token{huge}, in("script", text("</"))), api.ErrForm}, {api.Html, []api.Token{huge, instr("p", ">")}, api.ErrForm}, {api.Html, []api.Token{huge}, api.ErrLimit},
		{api.Xml, in("br", huge), api.ErrLimit}, {api.Plain, in("br", huge), api.ErrLimit}, {api.Xml, []api.Token{huge, huge}, api.ErrForm},
	} {
		if got, e := xout.Write(c.m, c.l...); got != "" || e != c.want {
			t.Error(c.m, len(c.l), e, c.want)
		}
		if got, e := xout.Bytes(c.m, true, c.l...); len(got) != 0 || e != c.want {
			t.Error(c.m, len(c.l), e, c.want)
		}
	}
}

func TestBytes(t *testing.T) { // P10.3
	l := in("a", text("é😀<"))
	for m, s := range map[api.Method]string{api.Xml: "<a>é😀&lt;</a>", api.Html: "<a>é😀&lt;</a>", api.Plain: "é😀<"} {
		if got, e := xout.Bytes(m, false, l...); e != api.OK || string(got) != s {
			t.Errorf("%q, %d", got, e)
		}
		want := []byte{0xfe, 0xff}
		for _, unit := range utf16.Encode([]rune(s)) {
			want = append(want, byte(unit>>8), byte(unit))
		}
		if got, e := xout.Bytes(m, true, l...); e != api.OK || !slices.Equal(got, want) {
			t.Errorf("% x, %d", got, e)
		}
	}
	if got, e := xout.Bytes(api.Xml, false); len(got) != 0 || e != api.OK {
		t.Error(got, e)
	}
	if got, e := xout.Bytes(api.Xml, true); string(got) != "\xfe\xff" || e != api.OK {
		t.Error(got, e)
	}
	// The text's bytes are counted, in whatever encoding they are told.
	if got, e := xout.Bytes(api.Plain, true, text(strings.Repeat("x", api.MaxText))); len(got) != 2*api.MaxText+2 || e != api.OK {
		t.Error(len(got), e)
	}
}
