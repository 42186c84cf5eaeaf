package xsheet_test

import (
	"fmt"
	"reflect"
	"strings"
	"testing"

	"stencil/api"
	"stencil/xsheet"
)

// refuse asks for an error, and for nothing beside it.
func refuse(t *testing.T, want api.Errno, l []api.Resource) {
	t.Helper()
	s, e := xsheet.Load("s", l...)
	if e != want || want != api.OK && !reflect.DeepEqual(s, api.Sheet{}) {
		t.Errorf("%.300s: %.100s, %d, want %d", fmt.Sprint(l), fmt.Sprint(s), e, want)
	}
}

func TestNoStylesheets(t *testing.T) { // P11.1: ErrSheet of the element, and of what stands right in it
	for _, s := range []string{
		"<a/>", "<stylesheet version='1.0'/>", "<transform version='1.0'/>", "<x:stylesheet version='1.0' xmlns:x='" + transformUri + "/'/>", "<x:stylesheet version='1.0' xmlns:x='u'/>",
		"<x:Stylesheet version='1.0' xmlns:x='" + transformUri + "'/>", "<x:template match='a' version='1.0' xmlns:x='" + transformUri + "'/>",
		"<x:stylesheet xmlns:x='" + transformUri + "'/>", "<x:stylesheet x:version='1.0' xmlns:x='" + transformUri + "'/>", "<x:stylesheet Version='1.0' xmlns:x='" + transformUri + "'/>",
		"<x:stylesheet version='1.0' id='a' xmlns:x='" + transformUri + "'/>", "<x:transform version='1.0' exclude-result-prefixes='' xmlns:x='" + transformUri + "'/>",
		"<html x:version='1.0' xmlns:x='" + transformUri + "'/>",
	} {
		refuse(t, api.ErrSheet, named("s", s))
	}
	for _, parts := range []string{
		"x", " x ", "&#160;", "<a/>", "<p:a xmlns:p='u'/>", "<x:a/>", "<x:stylesheet version='1.0'/>", "<x:Template match='a'/>", "<template match='a'/>",
		"<x:value-of select='1'/>", "<x:if test='1'/>", "<x:sort/>", "<x:when test='1'/>", "<x:otherwise/>", "<x:with-param name='a'/>", "<x:text> </x:text>", "<x:message/>", "<x:choose><x:when test='1'/></x:choose>",
		"<x:key name='a' match='b' use='c'/>", "<x:preserve-space elements='a'/>", "<x:decimal-format/>", "<x:attribute-set name='a'/>", "<x:namespace-alias/>",
		"<x:import/>", "<x:include/>", "<x:import Href='i'/>", "<x:import x:href='i'/>", "<x:import href='i' a='b'/>", "<x:include href='i' x:a='b'/>", "<x:import href='i'>t</x:import>", "<x:include href='i'><a/></x:include>", "<x:include href='i'><x:sort/></x:include>",
		// All imports stand ahead of the others.
		"<x:template name='n'/><x:import href='i'/>", "<x:include href='i'/><x:import href='i'/>", "<x:import href='i'/><x:output/><x:import href='i'/>", "<x:variable name='v'/><x:import href='z'/>", "<x:strip-space elements=''/> <x:import href='i'/>",
		// Templates.
		"<x:template/>", "<x:template mode='m'/>", "<x:template priority='1'/>", "<x:template name='n' mode='m'/>", "<x:template name='n' priority='1'/>", "<x:template x:match='a'/>", "<x:template match='a' select='b'/>",
		"<x:template name=''/>", "<x:template name=' n'/>", "<x:template name='1'/>", "<x:template name='a:b:c'/>", "<x:template name='a:'/>", "<x:template name='n m'/>", "<x:template name='{n}'/>", "<x:template match='a' name=''/>", "<x:template match='a' mode=''/>", "<x:template match='a' mode='#all'/>", "<x:template match='a' mode='m n'/>",
		"<x:template match='a' priority=''/>", "<x:template match='a' priority='a'/>", "<x:template match='a' priority='1e1'/>", "<x:template match='a' priority='+1'/>", "<x:template match='a' priority='NaN'/>", "<x:template match='a' priority='Infinity'/>", "<x:template match='a' priority='1000000000001'/>", "<x:template match='a' priority='-1000000000001'/>",
		// Globals.
		"<x:variable/>", "<x:param/>", "<x:variable select='1'/>", "<x:variable name=''/>", "<x:param name='1'/>", "<x:param name='$a'/>", "<x:variable name='a' value='1'/>", "<x:variable name='a' select='1'>t</x:variable>", "<x:param name='a' select=''><o/></x:param>", "<x:param name='a'><x:param name='b'/></x:param>", "<x:variable name='a'><x:sort/></x:variable>", "<x:variable name='a'><x:template name='b'/></x:variable>",
		// Outputs, and names to strip.
		"<x:output method=''/>", "<x:output method='XML'/>", "<x:output method='xhtml'/>", "<x:output method=' xml'/>", "<x:output method='p:m'/>", "<x:output encoding=''/>", "<x:output encoding='utf8'/>", "<x:output encoding='utf-32'/>", "<x:output encoding='iso-8859-1'/>", "<x:output encoding='utf-8 '/>", "<x:output indent='yes'/>", "<x:output>t</x:output>", "<x:output><a/></x:output>", "<x:output x:method='xml'/>",
		"<x:strip-space/>", "<x:strip-space elements='1'/>", "<x:strip-space elements='a,b'/>", "<x:strip-space elements='x:*'/>", "<x:strip-space elements='a 1 b'/>", "<x:strip-space elements='**'/>", "<x:strip-space elements='a&#160;b'/>", "<x:strip-space elements='{u}a'/>", "<x:strip-space elements='a' b='c'/>", "<x:strip-space elements='a'>b</x:strip-space>", "<x:strip-space elements='a'><a/></x:strip-space>",
	} {
		refuse(t, api.ErrSheet, named("s", sheetOf(parts), "i", sheetOf("")))
	}
}

func TestNoInstructions(t *testing.T) { // P11.1: ErrSheet of what stands in templates
	bodies := []string{
		"<x:a/>", "<x:template match='a'/>", "<x:import href='i'/>", "<x:output/>", "<x:stylesheet version='1'/>", "<x:fallback/>", "<x:Value-of select='a'/>", "<x:key/>", "<x:strip-space elements='a'/>",
		"<x:value-of/>", "<x:value-of x:select='a'/>", "<x:value-of select='a'>t</x:value-of>", "<x:value-of select='a'><x:text/></x:value-of>", "<x:value-of select='a' b='c'/>", "<x:value-of select='a' x:b='c'/>", "<x:value-of select='a' disable-output-escaping='no'/>", "<x:value-of Select='a'/>",
		"<x:copy-of/>", "<x:copy-of select='a'><o/></x:copy-of>", "<x:copy-of test='a'/>", "<x:copy select='a'/>", "<x:copy use-attribute-sets='a'/>", "<x:copy><x:sort/></x:copy>",
		"<x:apply-templates>t</x:apply-templates>", "<x:apply-templates><o/></x:apply-templates>", "<x:apply-templates><x:value-of select='a'/></x:apply-templates>", "<x:apply-templates><x:param name='a'/></x:apply-templates>", "<x:apply-templates mode=''/>", "<x:apply-templates mode='1'/>", "<x:apply-templates mode=' m'/>", "<x:apply-templates match='a'/>", "<x:apply-templates><x:sort/>t</x:apply-templates>", "<x:apply-templates><x:text/></x:apply-templates>",
		"<x:apply-imports a='b'/>", "<x:apply-imports mode='m'/>", "<x:apply-imports><x:with-param name='a'/></x:apply-imports>", "<x:apply-imports>t</x:apply-imports>",
		"<x:call-template/>", "<x:call-template name=''/>", "<x:call-template name='{a}'/>", "<x:call-template name='a b'/>", "<x:call-template name='a' select='b'/>", "<x:call-template name='a'><x:sort/></x:call-template>", "<x:call-template name='a'>t</x:call-template>", "<x:call-template name='a'><x:param name='b'/></x:call-template>", "<x:call-template name='a'><o/></x:call-template>",
		"<x:for-each/>", "<x:for-each select='a' order='ascending'/>", "<x:for-each select='a'>t<x:sort/></x:for-each>", "<x:for-each select='a'><x:sort/><o/><x:sort/></x:for-each>", "<x:for-each select='a'><x:text/><x:sort/></x:for-each>", "<x:for-each select='a'><x:with-param name='a'/></x:for-each>", "<x:for-each select='a'><x:if test='1'><x:sort/></x:if></x:for-each>", "<x:for-each select='a'><x:param name='b'/></x:for-each>",
		"<x:if/>", "<x:if select='a'/>", "<x:if test='a'><x:when test='b'/></x:if>", "<x:if test='a'><x:otherwise/></x:if>", "<x:if test='a'><x:param name='b'/></x:if>",
		"<x:choose/>", "<x:choose> </x:choose>", "<x:choose><x:otherwise/></x:choose>", "<x:choose><x:otherwise/><x:when test='a'/></x:choose>", "<x:choose><x:when test='a'/><x:otherwise/><x:otherwise/></x:choose>", "<x:choose><x:when test='a'/><x:otherwise/><x:when test='a'/></x:choose>", "<x:choose><x:when test='a'/>t</x:choose>", "<x:choose>t<x:when test='a'/></x:choose>", "<x:choose><x:when test='a'/><x:if test='b'/></x:choose>", "<x:choose><o/><x:when test='a'/></x:choose>", "<x:choose><x:when/></x:choose>", "<x:choose test='a'><x:when test='a'/></x:choose>", "<x:choose><x:when test='a'/><x:otherwise test='b'/></x:choose>", "<x:choose><x:when test='a'><x:when test='a'/></x:when></x:choose>", "<x:choose><x:when test='a'/><x:text/></x:choose>",
		"<x:when test='a'/>", "<x:otherwise/>", "<x:sort/>", "<x:with-param name='a'/>", "t<x:param name='a'/>", "<o/><x:param name='a'/>", "<x:param name='a'/><o/><x:param name='b'/>", "<x:text/><x:param name='a'/>", "<x:variable name='a'/><x:param name='b'/>", "<o><x:param name='a'/></o>", "<o><x:sort/></o>", "<o><x:a/></o>", "<o><o><x:when test='a'/></o></o>",
		"<x:variable/>", "<x:variable name='1'/>", "<x:variable name='a' select='b'>c</x:variable>", "<x:variable name='a' select=''>c</x:variable>", "<x:variable name='a' select='b'><o/></x:variable>", "<x:variable name='a' select='b'><x:text/></x:variable>", "<x:variable name='a' test='b'/>", "<x:variable name='a'><x:with-param name='b'/></x:variable>",
		"<x:param/>", "<x:param name=''/>", "<x:param name='a' select='b'>c</x:param>", "<x:param name='a' as='b'/>", "<x:param name='a'><x:sort/></x:param>",
		"<x:call-template name='a'><x:with-param/></x:call-template>", "<x:call-template name='a'><x:with-param name='{b}'/></x:call-template>", "<x:call-template name='a'><x:with-param name='b' select='c'>d</x:with-param></x:call-template>", "<x:call-template name='a'><x:with-param name='b' order='c'/></x:call-template>",
		"<x:text><o/></x:text>", "<x:text>t<x:text>u</x:text></x:text>", "<x:text a='b'>t</x:text>", "<x:text disable-output-escaping='yes'>t</x:text>", "<x:text x:a='b'/>", "<x:text><x:value-of select='a'/></x:text>",
		"<x:element/>", "<x:element name='a' namespace='b'/>", "<x:element name='a'><x:sort/></x:element>", "<x:attribute/>", "<x:attribute name='a' select='b'/>", "<x:attribute name='a'><x:param name='b'/></x:attribute>", "<x:comment name='a'/>", "<x:comment><x:otherwise/></x:comment>", "<x:processing-instruction/>", "<x:processing-instruction target='a'/>",
		"<x:message terminate=''/>", "<x:message terminate='Yes'/>", "<x:message terminate='true'/>", "<x:message select='a'/>", "<x:message><x:sort/></x:message>",
		"<x:number>t</x:number>", "<x:number level='any'/>", "<x:number select='a'/>", "<x:number><x:text/></x:number>",
	}
	for _, attrs := range []string{"order=''", "order='Ascending'", "order='{a}'", "data-type=''", "data-type='qname'", "data-type='Number'", "lang='en'", "case-order='upper-first'", "test='a'"} {
		bodies = append(bodies, "<x:for-each select='a'><x:sort "+attrs+"/></x:for-each>", "<x:apply-templates><x:sort "+attrs+"/></x:apply-templates>")
	}
	bodies = append(bodies, "<x:for-each select='a'><x:sort>t</x:sort></x:for-each>", "<x:apply-templates><x:sort><o/></x:sort></x:apply-templates>")
	for _, body := range bodies {
		refuse(t, api.ErrSheet, named("s", sheetOf(templateOf(body))))
		refuse(t, api.ErrSheet, named("s", sheetOf(templateOf("<o><x:if test='a'>"+body+"</x:if></o>"))))
		refuse(t, api.ErrSheet, named("s", sheetOf("<x:import href='i'/>"), "i", sheetOf("<x:include href='j'/>"), "j", sheetOf(templateOf(body))))
		if !strings.Contains(body, "<x:param name='a'/><o/>") && !strings.HasPrefix(body, "<x:param") {
			refuse(t, api.ErrSheet, named("s", sheetOf("<x:variable name='v'>"+body+"</x:variable>")))
		}
	}
}

func TestParseErrors(t *testing.T) { // P11.1, E6: xdm.Parse's, wherever the text is led to
	for s, want := range map[string]api.Errno{
		"": api.ErrForm, "x": api.ErrForm, head: api.ErrForm, sheetOf("<a>"): api.ErrForm, sheetOf("</a>"): api.ErrForm, sheetOf("") + "<a/>": api.ErrForm, sheetOf("&a;"): api.ErrForm,
		sheetOf("\x00"): api.ErrChar, sheetOf("\xff"): api.ErrChar, sheetOf("<p:a/>"): api.ErrPrefix, "<x:stylesheet version='1.0'/>": api.ErrPrefix,
		sheetOf("<a xmlns:p='u' xmlns:q='u' p:b='' q:b=''/>"): api.ErrKnown, sheetOf("<a b='' b=''/>"): api.ErrForm,
		sheetOf(strings.Repeat("<a>", api.MaxDeep) + strings.Repeat("</a>", api.MaxDeep)): api.ErrLimit,
		sheetOf(strings.Repeat(" ", api.MaxText)):                                         api.ErrLimit,
	} {
		refuse(t, want, named("s", s))
		// Its errors stand ahead of what it imports, and at their place in what imports it.
		refuse(t, want, named("s", strings.Replace(s, head, head+"<x:import href='none'/><x:a/>", 1)))
		refuse(t, want, named("s", sheetOf("<x:import href='i'/><x:import href='none'/><x:a/>"), "i", s))
		refuse(t, want, named("s", sheetOf("<x:output/><x:include href='i'/><x:a/>"), "i", s))
		refuse(t, api.ErrSheet, named("s", sheetOf("<x:a/><x:include href='i'/>"), "i", s))
		refuse(t, api.ErrName, named("s", sheetOf("<x:import href='none'/><x:import href='i'/>"), "i", s))
	}
}

func TestNames(t *testing.T) { // P11.1: ErrName; the first resource of a name counts
	refuse(t, api.ErrName, nil)
	refuse(t, api.ErrName, named("S", sheetOf("")))
	refuse(t, api.ErrName, named("", sheetOf("")))
	refuse(t, api.ErrName, named("s ", sheetOf("")))
	refuse(t, api.ErrName, named("s", sheetOf("<x:import href=''/>")))
	refuse(t, api.ErrName, named("s", sheetOf("<x:include href=' i'/>"), "i", sheetOf("")))
	refuse(t, api.OK, named("s", sheetOf(""), "s", "<a/>"))
	refuse(t, api.ErrSheet, named("s", "<a/>", "s", sheetOf("")))
	refuse(t, api.OK, named("i", sheetOf(""), "s", sheetOf("<x:import href='i'/>"), "i", "<a/>"))
	refuse(t, api.OK, named("s", sheetOf("<x:include href=' '/>"), " ", sheetOf("<x:include href=''/>"), "", sheetOf("<x:include href='&amp;é'/>"), "&é", sheetOf("")))
	for _, name := range []string{"", "\xff", "\x00", "a\nb"} {
		if s, e := xsheet.Load(name, api.Resource{Name: "x", Text: "<a/>"}, api.Resource{Name: name, Text: sheetOf(templateOf(""))}); e != api.OK || len(s.Rules) != 1 {
			t.Error(name, s, e)
		}
		if _, e := xsheet.Load(name, api.Resource{Name: "x", Text: sheetOf("")}); e != api.ErrName {
			t.Error(name, e)
		}
	}
}

func TestLoops(t *testing.T) { // P11.1: ErrLoop of what leads back to what it stands in
	for _, way := range []string{"import", "include"} {
		lead := func(name string) string { return sheetOf("<x:" + way + " href='" + name + "'/>") }
		refuse(t, api.ErrLoop, named("s", lead("s")))
		refuse(t, api.ErrLoop, named("s", lead("a"), "a", lead("s")))
		refuse(t, api.ErrLoop, named("s", lead("a"), "a", lead("a")))
		refuse(t, api.ErrLoop, named("s", lead("a"), "a", lead("b"), "b", lead("c"), "c", lead("a")))
		refuse(t, api.ErrLoop, named("s", lead("a"), "a", sheetOf("<x:import href='b'/><x:include href='s'/>"), "b", sheetOf("")))
		// A loop stands ahead of what lies behind it, and behind what lies ahead.
		refuse(t, api.ErrLoop, named("s", sheetOf("<x:"+way+" href='s'/><x:a/>")))
		refuse(t, api.ErrLoop, named("s", sheetOf("<x:"+way+" href='s'/><x:"+way+" href='none'/>")))
		refuse(t, api.ErrName, named("s", sheetOf("<x:"+way+" href='none'/><x:"+way+" href='s'/>")))
		refuse(t, api.ErrSheet, named("s", sheetOf("<x:a/><x:"+way+" href='s'/>")))
		refuse(t, api.ErrSheet, named("s", sheetOf("<x:"+way+" href='a'/>"), "a", sheetOf("<x:a/><x:"+way+" href='s'/>")))
		// The same one twice, but not in itself, is no loop.
		refuse(t, api.OK, named("s", sheetOf("<x:"+way+" href='a'/><x:"+way+" href='a'/>"), "a", sheetOf("")))
		refuse(t, api.OK, named("s", sheetOf("<x:"+way+" href='a'/><x:"+way+" href='b'/>"), "a", lead("b"), "b", sheetOf("")))
	}
	// Names tell stylesheets apart, texts do not.
	refuse(t, api.OK, named("s", sheetOf("<x:import href='i'/>"), "i", sheetOf("<x:import href='j'/>"), "j", sheetOf("")))
}

func TestSheetLimit(t *testing.T) { // P11.1: MaxSheets, each time that one is read
	for _, way := range []string{"import", "include"} {
		times := func(n int) string { return sheetOf(strings.Repeat("<x:"+way+" href='i'/>", n)) }
		empty := sheetOf("")
		refuse(t, api.OK, named("s", times(api.MaxSheets-1), "i", empty))
		refuse(t, api.ErrLimit, named("s", times(api.MaxSheets), "i", empty))
		refuse(t, api.OK, named("s", times(5), "i", sheetOf("<x:"+way+" href='j'/><x:"+way+" href='j'/>"), "j", empty))
		refuse(t, api.ErrLimit, named("s", times(6), "i", sheetOf("<x:"+way+" href='j'/><x:"+way+" href='j'/>"), "j", empty))
		chain := func(n int) []api.Resource {
			l := named("s", sheetOf("<x:"+way+" href='1'/>"))
			for i := 1; i < n-1; i++ {
				l = append(l, api.Resource{Name: fmt.Sprint(i), Text: sheetOf(fmt.Sprintf("<x:%s href='%d'/>", way, i+1))})
			}
			return append(l, api.Resource{Name: fmt.Sprint(n - 1), Text: empty})
		}
		refuse(t, api.OK, chain(api.MaxSheets))
		refuse(t, api.ErrLimit, chain(api.MaxSheets+1))
		// By its place among the others.
		many := strings.Repeat("<x:"+way+" href='i'/>", api.MaxSheets)
		refuse(t, api.ErrLimit, named("s", sheetOf(many+"<x:a/>"), "i", empty))
		refuse(t, api.ErrLimit, named("s", sheetOf(many+"<x:"+way+" href='none'/>"), "i", empty))
		refuse(t, api.ErrSheet, named("s", sheetOf("<x:a/>"+many), "i", empty))
		// What is not there is not read, and what leads back to itself is told ahead of the limit.
		most := strings.Repeat("<x:"+way+" href='i'/>", api.MaxSheets-1)
		refuse(t, api.ErrName, named("s", sheetOf(most+"<x:"+way+" href='none'/>"), "i", empty))
		refuse(t, api.ErrLoop, named("s", sheetOf(most+"<x:"+way+" href='s'/>"), "i", empty))
		refuse(t, api.ErrForm, named("s", sheetOf(most+"<x:"+way+" href='j'/>"), "i", empty, "j", "<a>"))
	}
}

func TestRuleLimit(t *testing.T) { // P11.1: MaxRules, of all stylesheets
	rules := func(n int) string { return strings.Repeat(templateOf(""), n) }
	refuse(t, api.OK, named("s", sheetOf(rules(api.MaxRules))))
	refuse(t, api.ErrLimit, named("s", sheetOf(rules(api.MaxRules+1))))
	for _, way := range []string{"import", "include"} {
		lead := "<x:" + way + " href='i'/>"
		refuse(t, api.OK, named("s", sheetOf(lead+lead+rules(api.MaxRules-60)), "i", sheetOf(rules(30))))
		refuse(t, api.ErrLimit, named("s", sheetOf(lead+lead+rules(api.MaxRules-59)), "i", sheetOf(rules(30))))
		refuse(t, api.ErrLimit, named("s", sheetOf(lead+lead+"<x:a/>"), "i", sheetOf(rules(api.MaxRules-1))))
	}
	refuse(t, api.ErrLimit, named("s", sheetOf(rules(api.MaxRules+1)+"<x:a/>")))
	refuse(t, api.ErrLimit, named("s", sheetOf(rules(api.MaxRules+1)+"<x:include href='none'/>")))
	refuse(t, api.ErrSheet, named("s", sheetOf(rules(api.MaxRules)+"<x:a/>"+rules(1))))
	refuse(t, api.ErrSheet, named("s", sheetOf(rules(api.MaxRules)+"<x:template/>")))
	refuse(t, api.ErrName, named("s", sheetOf(rules(api.MaxRules)+"<x:include href='none'/>"+rules(1))))
	refuse(t, api.ErrLimit, named("s", sheetOf("<x:template name='n'/><x:template name='n'/>"+rules(api.MaxRules))))
}

func TestKnown(t *testing.T) { // P11.1: ErrKnown, of one level, asked last
	rule, global := "<x:template name='n'/>", "<x:variable name='n'/>"
	for _, one := range []string{rule, "<x:template name='n' match='a'/>", global, "<x:param name='n'/>"} {
		others := []string{rule, "<x:template match='b' name='n' mode='m'/>"}
		apart := []string{global, "<x:param name='n'/>", "<x:template name='N'/>", "<x:template name='p:n' xmlns:p='u'/>", "<x:template match='n'/>"}
		if !strings.Contains(one, "template") {
			others = []string{global, "<x:param name='n' select='1'/>"}
			apart = []string{rule, "<x:variable name='N'/>", "<x:param name='p:n' xmlns:p='u'/>", "<x:template match='n'/>"}
		}
		for _, other := range others {
			refuse(t, api.ErrKnown, named("s", sheetOf(one+other)))
			refuse(t, api.ErrKnown, named("s", sheetOf(one+"<x:output/>"+other)))
			refuse(t, api.ErrKnown, named("s", sheetOf("<x:include href='i'/>"+other), "i", sheetOf(one)))
			refuse(t, api.ErrKnown, named("s", sheetOf(one+"<x:include href='i'/>"), "i", sheetOf(other)))
			refuse(t, api.ErrKnown, named("s", sheetOf("<x:include href='i'/><x:include href='i'/>"), "i", sheetOf(one)))
			refuse(t, api.ErrKnown, named("s", sheetOf("<x:import href='i'/>"), "i", sheetOf(one+other)))
			refuse(t, api.OK, named("s", sheetOf("<x:import href='i'/>"+other), "i", sheetOf(one)))
			refuse(t, api.OK, named("s", sheetOf("<x:import href='i'/><x:import href='i'/>"), "i", sheetOf(one)))
			refuse(t, api.OK, named("s", sheetOf("<x:include href='i'/>"+one), "i", sheetOf("<x:import href='j'/>"), "j", sheetOf(other)))
			// Behind all others.
			refuse(t, api.ErrSheet, named("s", sheetOf(one+other+"<x:a/>")))
			refuse(t, api.ErrName, named("s", sheetOf(one+other+"<x:include href='none'/>")))
			refuse(t, api.ErrLoop, named("s", sheetOf(one+other+"<x:include href='s'/>")))
			refuse(t, api.ErrPrefix, named("s", sheetOf(one+other+"<x:strip-space elements='p:a'/>")))
			refuse(t, api.ErrSheet, named("s", sheetOf("<x:import href='i'/><x:a/>"), "i", sheetOf(one+other)))
		}
		for _, other := range apart {
			refuse(t, api.OK, named("s", sheetOf(one+other)))
		}
	}
	// Those in templates are not globals, and two params of one name may stand in one.
	refuse(t, api.OK, named("s", sheetOf(global+templateOf("<x:param name='n'/><x:param name='n'/><x:variable name='n'/>")+templateOf("<x:variable name='n'/>"))))
	refuse(t, api.OK, named("s", sheetOf(templateOf("")+templateOf(""))))
}

func TestPrefixesThatStandForNothing(t *testing.T) { // P11.2: ErrPrefix
	refuse(t, api.ErrPrefix, named("s", sheetOf("<x:strip-space elements='p:a'/>")))
	refuse(t, api.ErrPrefix, named("s", sheetOf("<x:strip-space elements='a x:b xmlns:c'/>")))
	refuse(t, api.ErrPrefix, named("s", sheetOf("<x:strip-space elements='p:a'/><x:a/>")))
	refuse(t, api.ErrPrefix, named("s", sheetOf("<x:import href='i'/><x:a/>"), "i", sheetOf("<x:strip-space elements='p:a'/>")))
	refuse(t, api.ErrPrefix, named("s", strings.Replace(sheetOf("<x:import href='i'/>"), "xmlns:", "xmlns:p='u' xmlns:", 1), "i", sheetOf("<x:strip-space elements='p:a'/>")))
	refuse(t, api.ErrSheet, named("s", sheetOf("<x:a/><x:strip-space elements='p:a'/>")))
	refuse(t, api.ErrSheet, named("s", sheetOf("<x:strip-space elements='1 p:a'/>")))
	refuse(t, api.ErrSheet, named("s", sheetOf("<x:strip-space elements='p:a' b='c'/>")))
	// All other names stand for themselves.
	refuse(t, api.OK, named("s", sheetOf("<x:variable name='p:v' select='p:a'/><x:template match='p:a' name='p:n' mode='p:m'><x:call-template name='p:n'><x:with-param name='p:v'/></x:call-template><x:apply-templates mode='p:m'/></x:template>")))
}
