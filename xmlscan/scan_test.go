package xmlscan_test

import (
	"fmt"
	"strings"
	"testing"

	"stencil/api"
	"stencil/xmlscan"
)

// show is tokens in short: each a letter, and in [ ] what it has.
func show(l []api.Token) string {
	s := ""
	for _, t := range l {
		s += strings.Split("? R E A T C P e", " ")[t.Kind] + "[" + t.Name
		for _, a := range t.Attrs {
			s += fmt.Sprintf(" %s=%q", a.Name, a.Value)
		}
		if t.Kind == api.Text || t.Kind == api.Comment || t.Kind == api.Pi {
			s += fmt.Sprintf("%q", t.Text)
		}
		s += "]"
	}
	return s
}

func wantTokens(t *testing.T, s, want string) {
	t.Helper()
	l, e, at := xmlscan.Scan(s)
	if got := show(l); e != api.OK || at != 0 || got != want {
		t.Errorf("Scan(%.200q) = %.300s, %d, %d, want %.300s", s, got, e, at, want)
	}
}

// wantFault takes the place of the error as a ^ in the text.
func wantFault(t *testing.T, marked string, want api.Errno) {
	t.Helper()
	s := strings.Replace(marked, "^", "", 1)
	wantFaultAt(t, s, want, strings.Index(marked, "^"))
}

func wantFaultAt(t *testing.T, s string, want api.Errno, place int) {
	t.Helper()
	l, e, at := xmlscan.Scan(s)
	if e != want || at != place || len(l) != 0 {
		t.Errorf("Scan(%.200q) = %d tokens, %d, %d, want %d, %d", s, len(l), e, at, want, place)
	}
}

func TestScanTokens(t *testing.T) { // P3.1
	for s, want := range map[string]string{
		"<a b='1'>x&lt;<!--c--></a>":                  `E[a b="1"]T["x<"]C["c"]e[a]`,
		"<a/>":                                        `E[a]e[a]`,
		"<a></a>":                                     `E[a]e[a]`,
		"<a ></a >":                                   `E[a]e[a]`,
		"<a\n/>\n":                                    `E[a]e[a]`,
		"<a:b c:d=''></a:b\t>":                        `E[a:b c:d=""]e[a:b]`,
		"<é à='ö'>ü</é>":                              `E[é à="ö"]T["ü"]e[é]`,
		"<a b = \"'\"\r\nc\t=\n'\"'/>":                `E[a b="'" c="\""]e[a]`,
		"<a b='>'/>":                                  `E[a b=">"]e[a]`,
		"<a b='x=%y=\"1\"'>=</a>":                     `E[a b="x=%y=\"1\""]T["="]e[a]`,
		"<a b='/>'/>":                                 `E[a b="/>"]e[a]`,
		"<a b='1'/>":                                  `E[a b="1"]e[a]`,
		"<a b='1' c='1' a='1'/>":                      `E[a b="1" c="1" a="1"]e[a]`,
		"<a xmlns='u' xmlns:p='v'/>":                  `E[a xmlns="u" xmlns:p="v"]e[a]`,
		"<a><b/><b></b> </a>":                         `E[a]E[b]e[b]E[b]e[b]T[" "]e[a]`,
		"<a> \n\r\t</a>":                              `E[a]T[" \n\r\t"]e[a]`,
		"<a>x>y\"'</a>":                               `E[a]T["x>y\"'"]e[a]`,
		"<a>]]</a>":                                   `E[a]T["]]"]e[a]`,
		"<a>]>]] ></a>":                               `E[a]T["]>]] >"]e[a]`,
		"<a>\ufeff\ufffd</a>":                         "E[a]T[\"\\ufeff\ufffd\"]e[a]",
		"<a><!----></a>":                              `E[a]C[""]e[a]`,
		"<a><!-- - -->x</a>":                          `E[a]C[" - "]T["x"]e[a]`,
		"<a><!--<b>&x;]]><?--></a>":                   `E[a]C["<b>&x;]]><?"]e[a]`,
		"<a>x<!--c-->y<?p q?>z</a>":                   `E[a]T["x"]C["c"]T["y"]P[p"q"]T["z"]e[a]`,
		"<a><?p?></a>":                                `E[a]P[p""]e[a]`,
		"<a><?p \n?></a>":                             `E[a]P[p""]e[a]`,
		"<a><?p \n q ?></a>":                          `E[a]P[p"q "]e[a]`,
		"<a><?p <b>&x;--]]>??></a>":                   `E[a]P[p"<b>&x;--]]>?"]e[a]`,
		"<a><?xmlx?><?x?><?xm l?></a>":                `E[a]P[xmlx""]P[x""]P[xm"l"]e[a]`,
		"<a><![CDATA[]]></a>":                         `E[a]e[a]`,
		"<a><![CDATA[x]]></a>":                        `E[a]T["x"]e[a]`,
		"<a><![CDATA[<b>&x;--]]]]></a>":               `E[a]T["<b>&x;--]]"]e[a]`,
		"<a>x<![CDATA[ ]]>y<![CDATA[z]]></a>":         `E[a]T["x yz"]e[a]`,
		"<a>]]<![CDATA[>]]]]>></a>":                   `E[a]T["]]>]]>"]e[a]`,
		"<a>x<![CDATA[]]><b/><![CDATA[]]></a>":        `E[a]T["x"]E[b]e[b]e[a]`,
		"<a>&lt;&gt;&amp;&apos;&quot;</a>":            `E[a]T["<>&'\""]e[a]`,
		"<a b='&lt;&gt;&amp;&apos;&quot;'/>":          `E[a b="<>&'\""]e[a]`,
		"<a>&#65;&#x41;&#x4a;&#x4A;&#00065;</a>":      `E[a]T["AAJJA"]e[a]`,
		"<a>&#xd7ff;&#xe000;&#xfffd;&#x10ffff;</a>":   "E[a]T[" + fmt.Sprintf("%q", "\ud7ff\ue000\ufffd\U0010ffff") + "]e[a]",
		"<a>&#9;&#10;&#13;&#32;&#38;lt;</a>":          `E[a]T["\t\n\r &lt;"]e[a]`,
		"<a>]]&gt;&#93;]></a>":                        `E[a]T["]]>]]>"]e[a]`,
		"<a b='x\ty\nz\rw\r\n '/>":                    `E[a b="x y z w   "]e[a]`,
		"<a b='&#9;&#10;&#13;&#32;'/>":                `E[a b="\t\n\r "]e[a]`,
		" \n<!--c--> <?p q?>\r<a/>\t<?r?><!--d--> \n": `C["c"]P[p"q"]E[a]e[a]P[r""]C["d"]`,
	} {
		wantTokens(t, s, want)
	}
}

func TestScanDeclaration(t *testing.T) { // P3.1: the XML declaration
	for _, s := range []string{
		`version="1.0"`, `version='1.0'`, `version='1.1'`, `version='1.0123456789'`, "version\n=\t'1.0'", "  version='1.0' ",
		`version='1.0' encoding='utf-8'`, `version='1.0' encoding="U"`, `version='1.0' encoding='a09._-Zz'`, `version='1.0' encoding='AzZ'`,
		`version='1.0' standalone='yes'`, `version='1.0' standalone = "no"`,
		"version='1.0'\nencoding = 'x'\tstandalone = 'no'\r",
	} {
		wantTokens(t, "<?xml "+s+"?><a/>", "E[a]e[a]")
		wantTokens(t, "<?xml "+s+"?> <!--c--><a/>", `C["c"]E[a]e[a]`)
		wantFaultAt(t, " <?xml "+s+"?><a/>", api.ErrForm, 1)
		wantFaultAt(t, "<a><?xml "+s+"?></a>", api.ErrForm, 3)
		wantFaultAt(t, "<a/><?xml "+s+"?>", api.ErrForm, 4)
	}
	for _, s := range []string{
		"", " ", `version="1.0'`, `version='1.'`, `version='1'`, `version='2.0'`, `version='1.a'`, `version='1.0a'`, `version=''`,
		`version=1.0`, `version '1.0'`, `Version='1.0'`, `version='1.0' version='1.0'`, `version=' 1.0'`,
		`encoding='utf-8'`, `standalone='yes'`, `encoding='utf-8' version='1.0'`, `version='1.0'encoding='utf-8'`,
		`version='1.0' encoding=''`, `version='1.0' encoding='8'`, `version='1.0' encoding='_'`, `version='1.0' encoding='a b'`,
		`version='1.0' encoding='é'`, `version='1.0' encoding='aé'`, `version='1.0' encoding`, `version='1.0' encoding=`,
		`version='1.0' standalone='yes' encoding='utf-8'`, `version='1.0' standalone='Yes'`, `version='1.0' standalone=''`,
		`version='1.0' encoding='a'standalone='yes'`, `version='1.0' x='y'`, `version='1.0' x`, `version='1.0' ?`,
	} {
		wantFaultAt(t, "<?xml "+s+"?><a/>", api.ErrForm, 0)
	}
	wantFault(t, "^<?xmlversion='1.0'><a/>", api.ErrForm)
	wantFault(t, "^<?xml?><a/>", api.ErrForm)
	wantFault(t, "^<?XML version='1.0'?><a/>", api.ErrForm)
	wantFault(t, "^<?xml:a?><a/>", api.ErrForm)
	wantTokens(t, "<?xml-a version='1.0'?><a/>", `P[xml-a"version='1.0'"]E[a]e[a]`)
}

func TestScanDoctype(t *testing.T) { // P3.1: document types, which are told as no token
	for _, s := range []string{
		"<!DOCTYPE a>", "<!DOCTYPE\n a >", "<!DOCTYPE a:b>", "<!DOCTYPE b[]>", "<!DOCTYPE a [ ] >", "<!DOCTYPE a [\n<!--c--> <?p q?>]>",
		"<!DOCTYPE a [<!ENTITY e 'v'>]>", "<!DOCTYPE a[<!ENTITY e \"'\"><!ENTITY\n e\t'\"' >]>", "<!DOCTYPE a [<!ENTITY e ''>]>",
		"<!DOCTYPE a [<!ENTITY e '&lt;&#65;&#x41;&not;&e;'>]>", "<!DOCTYPE a [<!ENTITY e '>]]>'>]>", "<!--c--><!DOCTYPE a><?p q?>",
	} {
		want := "E[a]e[a]"
		if strings.HasPrefix(s, "<!--") {
			want = `C["c"]P[p"q"]` + want
		}
		wantTokens(t, s+"<a/>", want)
		wantTokens(t, "<?xml version='1.0'?>\n"+s+" <a/>", want)
	}
	for _, s := range []string{
		"^<!DOCTYPE><a/>", "^<!DOCTYPEa><a/>", "^<!DOCTYPE ><a/>", "^<!DOCTYPE 1><a/>", "^<!DOCTYPE a b><a/>", "^<!doctype a><a/>",
		"^<!DOCTYPE a:><a/>", "^<!DOCTYPE a SYSTEM 'x'><a/>", "^<!DOCTYPE a [] []><a/>", "^<!DOCTYPE a []", "^<!DOCTYPE a ", "^<!DOCTYPE a",
		"<!DOCTYPE a [^", "<!DOCTYPE a [ ^", "<!DOCTYPE a [<!--c-->^", "<!DOCTYPE a [^x]><a/>", "<!DOCTYPE a [ ^>]><a/>", "<!DOCTYPE a [^&lt;]><a/>",
		"<!DOCTYPE a [^<b/>]><a/>", "<!DOCTYPE a [^<!ELEMENT a ANY>]><a/>", "<!DOCTYPE a [<!--c-->^<!--", "<!DOCTYPE a [^<!--c--->]><a/>",
		"<!DOCTYPE a [^<?xml?>]><a/>", "<!DOCTYPE a [^<?p]><a/>", "<!DOCTYPE a [^<![CDATA[]]>]><a/>",
		"<!DOCTYPE a>^<!DOCTYPE a><a/>", "<a/>^<!DOCTYPE a>", "<a>^<!DOCTYPE a></a>",
	} {
		wantFault(t, s, api.ErrForm)
	}
	for _, s := range []string{
		"<!ENTITY", "<!ENTITY ", "<!ENTITY e", "<!ENTITY e ", "<!ENTITY e 'v", "<!ENTITY e 'v'", "<!ENTITY>", "<!ENTITYe 'v'>", "<!ENTITY e'v'>",
		"<!ENTITY 'v'>", "<!ENTITY 1 'v'>", "<!ENTITY a:b 'v'>", "<!ENTITY e v>", "<!ENTITY e >", "<!ENTITY e>", "<!ENTITY e 'v\">", "<!ENTITY e 'v' 'w'>", "<!ENTITY % e 'v'>",
		"<!ENTITY e SYSTEM 'v'>", "<!ENTITY e 'a<b'>", "<!ENTITY e 'a%b'>", "<!ENTITY e '&'>", "<!ENTITY e '&x'>", "<!ENTITY e '&;'>",
		"<!ENTITY e '& x;'>", "<!ENTITY e '&#0;'>", "<!ENTITY e '&#;'>", "<!ENTITY e '&lt;&'>", "<!ENTITY e '&a:b;'>", "<!entity e 'v'>",
	} {
		wantFault(t, "<!DOCTYPE a [<!ENTITY e 'x'>^"+s+"]><a/>", api.ErrForm)
	}
}

func TestScanFaults(t *testing.T) { // P3.1: what is no document, and where
	for _, s := range []string{
		// What stands beside the element.
		"^", " \n^", "<!--c-->^", "<?p?> ^", "<!DOCTYPE a>^", "<?xml version='1.0'?>^",
		"^x<a/>", " ^x<a/>", "<a/>^x", "<a/> ^x", "<a/>^<b/>", "<a/>^<b", "<a></a>^</a>", "^</a>", "^&lt;<a/>", "<a/>^&lt;", "<a/>^]]>",
		"^<![CDATA[]]><a/>", "<a/>^<![CDATA[]]>", "^\ufeff<a/>", "<a/>^\u00a0", "^>", "^<", "^<!", "^<!x><a/>",
		// Elements and their ends.
		"<a>^", "<a>x^", "<a>x<!--c-->^", "<a><b></b>^", "<a><b/>^", "<a>]]^", "<a> ^", "<a>&lt;^", "<a><![CDATA[]]>^",
		"<a>^</b>", "<a>^</a:a>", "<a:a>^</a>", "<a>^</A>", "<a><b>^</a></b>", "<a>x^</ a>", "<a>^</a", "<a>^</a ", "<a>^</", "<a>^</>", "<a>^</a b='1'>", "<a>^</a/>",
		// Start tags.
		"^<a", "^<a ", "^<a/", "^<a /", "^< a/>", "^<1/>", "^<-a/>", "^<a:/>", "^<:a/>", "^<a:b:c/>", "^<a:1/>", "^<a/ >", "^<a / >", "^<a//>", "^<a<b/>", "^<a&lt;/>",
		"<a>^<", "<a>^<b", "<a>x^<b c", "<a>^<b </a>", "<a>^<!x></a>", "<a>^<!></a>", "<a>^<!-x--></a>", "<a>^<![cdata[]]></a>",
		// Attributes.
		"^<a b/>", "^<a b=/>", "^<a b=1/>", "^<a b='1/>", "^<a b='1\"/>", "^<a b='1'c='2'/>", "^<a b='<'/>", "^<a b='1'", "^<a b='1'x/>", "^<a b='1' =''/>",
		"^<a ='1'/>", "^<a 1='1'/>", "^<a :b='1'/>", "^<a b:='1'/>", "^<a b:c:d='1'/>", "^<a b='1' b='2'/>", "^<a p:b='1' c='' p:b='1'/>", "^<a b='1' 'x'/>", "^<a b'1'/>",
		"<a>^<b c='</a>", "^<a b='&lt;", "^<a b='&lt;/>",
		// References.
		"<a>^&x;</a>", "<a>x^&</a>", "<a>^&;</a>", "<a>^& lt;</a>", "<a>^&lt</a>", "<a>^&lt ;</a>", "<a>^&lt", "<a>^&LT;</a>", "<a>^&a:b;</a>", "<a>^&1;</a>", "<a>&amp;^&amp</a>",
		"<a>^&#;</a>", "<a>^&#x;</a>", "<a>^&#a;</a>", "<a>^&#xg;</a>", "<a>^&#X41;</a>", "<a>^&#65</a>", "<a>^&#65", "<a>^&# 65;</a>", "<a>^&#-1;</a>", "<a>^&#+65;</a>", "<a>^&#x 41;</a>", "<a>^&#6_5;</a>",
		"<a>^&#0;</a>", "<a>^&#x0;</a>", "<a>^&#8;</a>", "<a>^&#31;</a>", "<a>^&#xd800;</a>", "<a>^&#xdfff;</a>", "<a>^&#xfffe;</a>", "<a>^&#xffff;</a>", "<a>^&#x110000;</a>", "<a>^&#1114112;</a>",
		"<a>^&#18446744073709551681;</a>", "<a>^&#x10000000000000041;</a>", "<a>^&#4294967361;</a>", "<a>^&#x" + strings.Repeat("f", 99) + ";</a>",
		"<a b='^&x;'/>", "<a b='x^&'/>", "<a b='^&#0;'/>", "<a b='1' c='^&x;'/>", "<a b='^&x", "<a b='^&'/>",
		// Comments, processing instructions, CDATA, ]]>.
		"^<!--", "^<!-->", "^<!--->", "^<!---", "^<!--x", "^<!--x-", "^<!--x--", "^<!---- --><a/>", "<a>^<!--x--y--></a>", "<a>^<!--x---></a>", "<a>^<!-----></a>", "<a/>^<!--", "<a>^<!-- </a>",
		"^<?", "^<??><a/>", "^<?p", "^<?p ", "^<?p q", "^<?p q?", "^<? p?><a/>", "^<?1?><a/>", "^<?p:q?><a/>", "^<?p?q?><a/>", "^<?p/?><a/>", "<a>^<?p></a>", "<a>^<?p q></a>", "<a>^<?xml?></a>", "<a>^<?xML?></a>", "<a/>^<?Xml x?>",
		"<a>^<![CDATA[", "<a>^<![CDATA[]]", "<a>^<![CDATA[]] ></a>", "<a>^<![CDATA</a>", "<a>x^<![CDATA[ </a>",
		"<a>^]]></a>", "<a>x^]]>y</a>", "<a>]^]]></a>", "<a><b/>^]]></a>", "<a>&lt;^]]></a>", "<a><![CDATA[]]>^]]></a>", "<a>^]]>",
	} {
		wantFault(t, s, api.ErrForm)
	}
}

func TestScanFirstFault(t *testing.T) { // P3.1: which of several errors is told
	deep := strings.Repeat("<a>", api.MaxDeep)
	many := ""
	for i := range api.MaxAttrs + 1 {
		many += fmt.Sprintf(" a%d=''", i)
	}
	for s, want := range map[string]api.Errno{
		"<a>^&x;</b>":               api.ErrForm,
		"<a>^</b>&x;":               api.ErrForm,
		"<a>^]]>&x;":                api.ErrForm,
		"<a b='^&x;' b=''/>":        api.ErrForm,
		"^<a b='' b='&x;'/>":        api.ErrForm,
		"^<a b='<&x;'/>":            api.ErrForm,
		"<a b='^&x;<'/>":            api.ErrForm,
		"<a b='^&x;' c/>":           api.ErrForm,
		"^<a c b='&x;'/>":           api.ErrForm,
		"<a" + many + " b='^&x;'/>": api.ErrForm,
		"^<a" + many + " a1=''/>":   api.ErrForm,
		"^<a" + many + " b/>":       api.ErrForm,
		"^<a" + many + ">":          api.ErrLimit,
		"^<a" + many + ">&x;</a>":   api.ErrLimit,
		deep + "<b c='^&x;'/>":      api.ErrForm,
		deep + "^<b c=''c=''/>":     api.ErrForm,
		deep + "^<b>&x;</b>":        api.ErrLimit,
		deep + "^<b/>":              api.ErrLimit,
		deep + "^&x;<b/>":           api.ErrForm,
		deep + "^</b><b/>":          api.ErrForm,
	} {
		wantFault(t, s, want)
	}
}

func TestScanChars(t *testing.T) { // P3.1: characters that may not be
	for _, s := range []string{
		"^\x00", "^\xff", "<a>^\x08</a>", "<a>x^\x1f</a>", "<a>^\ufffe</a>", "<a>é^\uffff</a>", "<a>^\xed\xa0\x80</a>", "<a>^\xc0\x80</a>", "<a>^\xf4\x90\x80\x80</a>",
		"<a>x^\xe2\x82</a>", "<a/>^\xc3", "<a b='^\x01'/>", "<!--^\x0b-->", "<?p ^\x0c?>", "<a>]]>^\x00", "<a></b>^\x02\x03", "&x;<^\x80",
	} {
		wantFault(t, s, api.ErrChar)
	}
	wantTokens(t, "<a>\x7f\u0080\ufffd\U0010ffff</a>", "E[a]T["+fmt.Sprintf("%q", "\x7f\u0080\ufffd\U0010ffff")+"]e[a]")
}

func TestScanLongest(t *testing.T) { // P3.1: MaxText
	fill := func(n int) string { return "<a>" + strings.Repeat("x", n-len("<a></a>")) + "</a>" }
	if l, e, at := xmlscan.Scan(fill(api.MaxText)); e != api.OK || at != 0 || len(l) != 3 || len(l[1].Text) != api.MaxText-7 {
		t.Error(len(l), e, at)
	}
	wantFaultAt(t, fill(api.MaxText+1), api.ErrLimit, 0)
	wantFaultAt(t, strings.Repeat("\x00", api.MaxText), api.ErrChar, 0)
	wantFaultAt(t, strings.Repeat("\x00", api.MaxText+1), api.ErrLimit, 0)
	wantFaultAt(t, strings.Repeat(" ", api.MaxText), api.ErrForm, api.MaxText)
	wantFaultAt(t, strings.Repeat("<", api.MaxText+1), api.ErrLimit, 0)
}

func TestScanDeepest(t *testing.T) { // P3.1: MaxDeep
	open, end := strings.Repeat("<a>", api.MaxDeep), strings.Repeat("</a>", api.MaxDeep)
	if l, e, _ := xmlscan.Scan(open + end); e != api.OK || len(l) != 2*api.MaxDeep {
		t.Error(len(l), e)
	}
	// As deep as that more than once.
	if l, e, _ := xmlscan.Scan("<b>" + open[3:] + end[4:] + open[3:] + end[4:] + "</b>"); e != api.OK || len(l) != 4*api.MaxDeep-2 {
		t.Error(len(l), e)
	}
	wantFault(t, open+"^<a></a>"+end, api.ErrLimit)
	wantFault(t, open+"x^<b/>"+end, api.ErrLimit)
}

func TestScanAttributes(t *testing.T) { // P3.1: MaxAttrs
	many, want := "", ""
	for i := range api.MaxAttrs {
		many += fmt.Sprintf(" a%d='%d'", i, i)
		want += fmt.Sprintf(" a%d=\"%d\"", i, i)
	}
	wantTokens(t, "<a"+many+"/>", "E[a"+want+"]e[a]")
	wantFault(t, "<b>^<a"+many+" b=''/></b>", api.ErrLimit)
	wantFault(t, "<b>^<a"+many+" xmlns:p=''></a></b>", api.ErrLimit)
}

func TestScanMostTokens(t *testing.T) { // P3.1: the token MaxNodes and 1
	// fill is a document's beginning with n tokens.
	fill := func(n int) string { return "<a>" + strings.Repeat("<?p?>", n-1) }
	if l, e, _ := xmlscan.Scan(fill(api.MaxNodes-1) + "</a>"); e != api.OK || len(l) != api.MaxNodes {
		t.Error(len(l), e)
	}
	if l, e, _ := xmlscan.Scan(fill(api.MaxNodes-4) + "x<b/></a>"); e != api.OK || len(l) != api.MaxNodes {
		t.Error(len(l), e)
	}
	if l, e, _ := xmlscan.Scan(fill(api.MaxNodes-2) + "x</a>"); e != api.OK || len(l) != api.MaxNodes {
		t.Error(len(l), e)
	}
	if l, e, _ := xmlscan.Scan("<!DOCTYPE a [<!--c--><?p?><!ENTITY e ''>]>" + fill(api.MaxNodes-1) + "&e;<![CDATA[]]></a>"); e != api.OK || len(l) != api.MaxNodes {
		t.Error(len(l), e)
	}
	full := fill(api.MaxNodes)
	for s, want := range map[string]api.Errno{
		"^</a>":                api.ErrLimit,
		"^x</a>":               api.ErrLimit,
		"^<?q r?>":             api.ErrLimit,
		"^<!--c-->":            api.ErrLimit,
		"^<b>":                 api.ErrLimit,
		"^<b/>":                api.ErrLimit,
		"^ &x;":                api.ErrLimit,
		"^x]]>":                api.ErrLimit,
		"^&lt;&x;":             api.ErrLimit,
		"^<![CDATA[x]]>&x;":    api.ErrLimit,
		"^<![CDATA[]]>x]]>":    api.ErrLimit,
		"^x":                   api.ErrLimit,
		"^":                    api.ErrForm,
		"^&x;":                 api.ErrForm,
		"^]]>":                 api.ErrForm,
		"^</b>":                api.ErrForm,
		"^<!--":                api.ErrForm,
		"^<?xml?>":             api.ErrForm,
		"^<b b=''b=''>":        api.ErrForm,
		"<b c='^&x;'/>":        api.ErrForm,
		"^<![CDATA[x":          api.ErrForm,
		"<![CDATA[]]>^<!--c--": api.ErrForm,
		"<![CDATA[]]>^]]>":     api.ErrForm,
		"<![CDATA[]]>^</a>":    api.ErrLimit,
	} {
		wantFault(t, full+s, want)
	}
	// An empty element is two tokens.
	wantFault(t, fill(api.MaxNodes-1)+"^<b/></a>", api.ErrLimit)
	wantFault(t, fill(api.MaxNodes-1)+"<b>^</b></a>", api.ErrLimit)
	wantFault(t, fill(api.MaxNodes-2)+"<b/>^</a>", api.ErrLimit)
	// Beside the element too.
	wantFault(t, fill(api.MaxNodes-1)+"</a>^<!--c-->", api.ErrLimit)
	wantFault(t, strings.Repeat("<?p?>", api.MaxNodes)+"^<?p?><a/>", api.ErrLimit)
	wantFault(t, strings.Repeat("<?p?>", api.MaxNodes)+"^<a/>", api.ErrLimit)
	wantFault(t, strings.Repeat("<?p?>", api.MaxNodes-1)+" ^<a/>", api.ErrLimit)
}
