package xbuild_test

import (
	"fmt"
	"testing"

	"stencil/api"
	"stencil/xbuild"
	"stencil/xdm"
)

func TestOwnPrefix(t *testing.T) { // P14.4: an element's name
	tells(t, `<p:a xmlns:p="u"></p:a>`, open("p:a", "u"), ends)
	tells(t, `<a xmlns="u"></a>`, open("a", "u"), ends)
	tells(t, `<a></a>`, open("a", ""), ends)
	tells(t, `<xml:a></xml:a>`, open("xml:a", xmlUri), ends)
	// What stands so around is not declared again.
	tells(t, `<p:a xmlns:p="u"><p:b><p:c></p:c></p:b></p:a>`, open("p:a", "u"), open("p:b", "u"), open("p:c", "u"), ends, ends, ends)
	tells(t, `<a xmlns="u"><b></b></a>`, open("a", "u"), open("b", "u"), ends, ends)
	tells(t, `<a><b></b></a>`, open("a", ""), open("b", ""), ends, ends)
	// What stands for something else around is.
	tells(t, `<p:a xmlns:p="u"><p:b xmlns:p="v"><p:c xmlns:p="u"></p:c></p:b></p:a>`, open("p:a", "u"), open("p:b", "v"), open("p:c", "u"), ends, ends, ends)
	tells(t, `<a xmlns="u"><b xmlns=""><c></c><d xmlns="u"></d></b></a>`, open("a", "u"), open("b", ""), open("c", ""), ends, open("d", "u"), ends, ends, ends)
	// It holds in the element alone.
	tells(t, `<p:a xmlns:p="u"></p:a><p:a xmlns:p="u"></p:a>`, open("p:a", "u"), ends, open("p:a", "u"), ends)
	tells(t, `<a><b xmlns="u"><c></c></b><d></d><p:e xmlns:p="u"></p:e><p:e xmlns:p="v"></p:e></a>`, open("a", ""), open("b", "u"), open("c", "u"), ends, ends, open("d", ""), ends, open("p:e", "u"), ends, open("p:e", "v"), ends, ends)
	tells(t, `<p:a xmlns:p="u"><q:b xmlns:q="u"></q:b></p:a>`, open("p:a", "u"), open("q:b", "u"), ends, ends)
}

func TestDeclared(t *testing.T) { // P14.2, P14.4: what was declared
	tells(t, `<a xmlns:p="u"></a>`, open("a", ""), declare("p", "u"), ends)
	tells(t, `<a xmlns:p="v"></a>`, open("a", ""), declare("p", "u"), declare("p", "v"), ends)
	tells(t, `<p:a xmlns:p="u"></p:a>`, open("p:a", "u"), declare("p", "u"), ends)
	tells(t, `<p:a xmlns:p="u" p:b="1"></p:a>`, open("p:a", "u"), declare("p", "v"), attr("p:b", "u", "1"), declare("p", "u"), ends)
	tells(t, `<a xmlns="u"></a>`, open("a", "u"), declare("", "u"), ends)
	// Also if no name needs it; what lies in the element has it.
	tells(t, `<a xmlns:p="u"><p:b p:c="1"></p:b></a>`, open("a", ""), declare("p", "u"), open("p:b", "u"), attr("p:c", "u", "1"), ends, ends)
	// But what stands so around already.
	tells(t, `<a xmlns:p="u"><b><c xmlns:p="v"></c></b></a>`, open("a", ""), declare("p", "u"), open("b", ""), declare("p", "u"), open("c", ""), declare("p", "v"), ends, ends, ends)
	tells(t, `<a xmlns="u"><b></b></a>`, open("a", "u"), open("b", "u"), declare("", "u"), ends, ends)
	tells(t, `<a></a>`, open("a", ""), declare("", ""), ends)
	tells(t, `<a xmlns="u"><b xmlns=""></b></a>`, open("a", "u"), open("b", ""), declare("", ""), ends, ends)
	tells(t, `<a xmlns="u"><p:b xmlns="" xmlns:p="v"><c></c></p:b></a>`, open("a", "u"), open("p:b", "v"), declare("", ""), open("c", ""), ends, ends, ends)
	tells(t, `<a xml:b=""></a>`, open("a", ""), declare("xml", xmlUri), attr("xml:b", xmlUri, ""), ends)
	tells(t, `<xml:a><b></b></xml:a>`, open("xml:a", xmlUri), declare("xml", xmlUri), open("b", ""), declare("xml", xmlUri), ends, ends)
	// By their prefixes, and ahead of the attributes.
	tells(t, `<a xmlns="9" xmlns:B="8" xmlns:_="7" xmlns:b="6" xmlns:ba="5" xmlns:n="4" xmlns:ns0="3" xmlns:ns10="2" xmlns:ns2="1" xmlns:é="0" z="" xml:y=""></a>`,
		open("a", "9"), attr("z", "", ""), declare("ns10", "2"), declare("é", "0"), declare("b", "6"), declare("ns0", "3"), attr("xml:y", xmlUri, ""), declare("n", "4"), declare("B", "8"), declare("ns2", "1"), declare("ba", "5"), declare("_", "7"), ends)
}

func TestOtherPrefix(t *testing.T) { // P14.4: a prefix that was declared here as something else
	tells(t, `<ns0:a xmlns:ns0="u" xmlns:p="v"></ns0:a>`, open("p:a", "u"), declare("p", "v"), ends)
	tells(t, `<ns0:a xmlns="v" xmlns:ns0="u"></ns0:a>`, open("a", "u"), declare("", "v"), ends)
	tells(t, `<ns0:a xmlns:ns0="u"><b></b></ns0:a>`, open("a", "u"), declare("", ""), open("b", ""), ends, ends)
	tells(t, `<a xmlns="v"><ns0:b xmlns="" xmlns:ns0="u"></ns0:b></a>`, open("a", "v"), open("b", "u"), declare("", ""), ends, ends)
	// Also if it stands so around already.
	tells(t, `<a xmlns:p="v"><ns0:b xmlns:ns0="u"><p:c></p:c></ns0:b></a>`, open("a", ""), declare("p", "v"), open("p:b", "u"), declare("p", "v"), open("p:c", "v"), ends, ends, ends)
	tells(t, `<a xmlns="v"><ns0:b xmlns:ns0="u"></ns0:b></a>`, open("a", "v"), open("b", "u"), declare("", "v"), ends, ends)
	// Also if around it stands for what the name needs.
	tells(t, `<p:a xmlns:p="u"><ns0:b xmlns:ns0="u" xmlns:p="v"></ns0:b></p:a>`, open("p:a", "u"), open("p:b", "u"), declare("p", "v"), ends, ends)
	// What is not declared here is, whatever is around.
	tells(t, `<a xmlns:p="v"><p:b xmlns:p="u"></p:b></a>`, open("a", ""), declare("p", "v"), open("p:b", "u"), ends, ends)
}

func TestFreePrefix(t *testing.T) { // P14.4: the first of ns0, ns1, .. that is not declared here and stands for nothing around
	tells(t, `<ns1:a xmlns:ns0="w" xmlns:ns1="u" xmlns:p="v"></ns1:a>`, open("p:a", "u"), declare("p", "v"), declare("ns0", "w"), ends)
	tells(t, `<ns0:a xmlns:ns0="u" xmlns:ns1="w" xmlns:p="v"></ns0:a>`, open("p:a", "u"), declare("p", "v"), declare("ns1", "w"), ends)
	tells(t, `<ns3:a xmlns:ns0="1" xmlns:ns1="2" xmlns:ns2="3" xmlns:ns3="u" xmlns:ns4="5" xmlns:p="v"></ns3:a>`, open("p:a", "u"), declare("p", "v"), declare("ns4", "5"), declare("ns2", "3"), declare("ns0", "1"), declare("ns1", "2"), ends)
	tells(t, `<a xmlns:ns0="w"><ns1:b xmlns:ns1="u" xmlns:p="v"></ns1:b></a>`, open("a", ""), declare("ns0", "w"), open("p:b", "u"), declare("p", "v"), ends, ends)
	tells(t, `<a xmlns:ns0="w"><ns1:b xmlns:ns1="u" xmlns:p="v"></ns1:b></a>`, open("a", ""), declare("ns0", "w"), open("p:b", "u"), declare("p", "v"), declare("ns0", "w"), ends, ends)
	// Also if it stands for the same around, or was made there.
	tells(t, `<a xmlns:ns0="u"><ns1:b xmlns:ns1="u" xmlns:p="v"></ns1:b></a>`, open("a", ""), declare("ns0", "u"), open("p:b", "u"), declare("p", "v"), ends, ends)
	tells(t, `<ns0:a xmlns:ns0="u" xmlns:p="v"><ns1:b xmlns:ns1="u"></ns1:b></ns0:a><ns0:c xmlns:ns0="u" xmlns:p="w"></ns0:c>`,
		open("p:a", "u"), declare("p", "v"), open("p:b", "u"), declare("p", "v"), ends, ends, open("p:c", "u"), declare("p", "w"), ends)
	tells(t, `<ns1:a xmlns:ns0="v" xmlns:ns1="u"></ns1:a>`, open("ns0:a", "u"), declare("ns0", "v"), ends)
	// Deep in others.
	tells(t, `<ns0:a xmlns:ns0="1"><b><ns1:c xmlns:ns1="1" xmlns:p="2"></ns1:c></b></ns0:a>`, open("ns0:a", "1"), open("b", ""), open("p:c", "1"), declare("p", "2"), ends, ends, ends)
}

func TestNoUri(t *testing.T) { // P14.4: what was declared for no prefix is dropped, if the name has no Uri
	tells(t, `<a></a>`, open("a", ""), declare("", "u"), ends)
	tells(t, `<a xmlns:p="v" p:b=""></a>`, open("a", ""), declare("", "u"), declare("p", "v"), attr("p:b", "v", ""), ends)
	tells(t, `<a><b></b><c xmlns="u"></c></a>`, open("a", ""), declare("", "u"), open("b", ""), ends, open("c", "u"), ends, ends)
	tells(t, `<a xmlns="w"><b xmlns=""></b></a>`, open("a", "w"), open("b", ""), declare("", "u"), ends, ends)
	tells(t, `<a xmlns="w"><b xmlns=""></b></a>`, open("a", "w"), open("b", ""), declare("", "w"), ends, ends)
	// Not, if it has a prefix.
	tells(t, `<p:a xmlns="u" xmlns:p="v"><b></b></p:a>`, open("p:a", "v"), declare("", "u"), open("b", "u"), ends, ends)
	tells(t, `<xml:a xmlns="u"></xml:a>`, open("xml:a", xmlUri), declare("", "u"), ends)
}

func TestPrefixesOfAttributes(t *testing.T) { // P14.4: each attribute of a Uri likewise
	tells(t, `<p:a xmlns:ns0="v" xmlns:p="u" ns0:b=""></p:a>`, open("p:a", "u"), attr("p:b", "v", ""), ends)
	tells(t, `<a xmlns:p="v" p:b=""></a>`, open("a", ""), attr("p:b", "v", ""), ends)
	tells(t, `<a xmlns="u" xmlns:p="u" p:b=""></a>`, open("a", "u"), attr("p:b", "u", ""), ends)
	tells(t, `<a xmlns="u" b=""></a>`, open("a", "u"), attr("b", "", ""), ends)
	tells(t, `<p:a xmlns:p="u" b="" p:b="" p:c=""></p:a>`, open("p:a", "u"), attr("b", "", ""), attr("p:b", "u", ""), attr("p:c", "u", ""), ends)
	tells(t, `<a xmlns:p="v"><b p:c=""></b></a>`, open("a", ""), declare("p", "v"), open("b", ""), attr("p:c", "v", ""), ends, ends)
	tells(t, `<a xmlns:p="v"><b xmlns:p="w" p:c=""></b></a>`, open("a", ""), declare("p", "v"), open("b", ""), attr("p:c", "w", ""), ends, ends)
	tells(t, `<a xmlns:ns0="w" xmlns:p="v" ns0:c=""></a>`, open("a", ""), declare("p", "v"), attr("p:c", "w", ""), ends)
	tells(t, `<a xmlns:p="v"><b xmlns:ns0="w" ns0:c=""></b></a>`, open("a", ""), declare("p", "v"), open("b", ""), declare("p", "v"), attr("p:c", "w", ""), ends, ends)
	// Names ahead keep their prefixes, also those that stand so around (P14.5).
	tells(t, `<p:a xmlns:p="u"><p:b xmlns:ns0="v" ns0:c=""></p:b></p:a>`, open("p:a", "u"), open("p:b", "u"), attr("p:c", "v", ""), ends, ends)
	tells(t, `<a xmlns:p="u"><b xmlns:ns0="v" p:c="1" ns0:d="2"></b></a>`, open("a", ""), declare("p", "u"), open("b", ""), attr("p:c", "u", "1"), attr("p:d", "v", "2"), ends, ends)
	tells(t, `<a xmlns:p="u"><b xmlns:ns0="u" xmlns:p="v" p:c="1" ns0:d="2"></b></a>`, open("a", ""), declare("p", "u"), open("b", ""), attr("p:c", "v", "1"), attr("p:d", "u", "2"), ends, ends)
	// Each one has a prefix of its own; those that are free come one behind the other.
	tells(t, `<p:a xmlns:ns0="v" xmlns:ns1="w" xmlns:ns2="v" xmlns:p="u" ns0:b="1" ns1:b="2" ns2:c="3"></p:a>`, open("p:a", "u"), attr("p:b", "v", "1"), attr("p:b", "w", "2"), attr("p:c", "v", "3"), ends)
	tells(t, `<p:a xmlns:ns0="v" xmlns:ns1="w" xmlns:p="u" ns0:b="1" ns1:c="2"></p:a>`, open("p:a", "u"), attr("p:b", "v", "1"), attr("ns0:c", "w", "2"), ends)
	tells(t, `<p:a xmlns:ns0="w" xmlns:ns1="v" xmlns:p="u" ns0:c="2" ns1:b="1"></p:a>`, open("p:a", "u"), attr("ns0:c", "w", "2"), attr("p:b", "v", "1"), ends)
	tells(t, `<p:a xmlns:ns0="v" xmlns:p="u" ns0:b="1" ns0:c="2"></p:a>`, open("p:a", "u"), attr("p:b", "v", "1"), attr("ns0:c", "v", "2"), ends)
	tells(t, `<ns0:a xmlns:ns0="u" xmlns:ns1="w" xmlns:p="v" ns1:b=""></ns0:a>`, open("p:a", "u"), declare("p", "v"), attr("ns0:b", "w", ""), ends)
	// xml is never declared.
	tells(t, `<xml:a xml:b="" xml:lang=""></xml:a>`, open("xml:a", xmlUri), attr("xml:b", xmlUri, ""), attr("xml:lang", xmlUri, ""), ends)
}

func TestLookedAtAtTheEnd(t *testing.T) { // P14.2: Declare behind attributes counts as well as ahead of them
	for _, l := range [][]step{
		{open("p:a", "u"), attr("p:b", "v", "1"), declare("p", "w")},
		{open("p:a", "u"), declare("p", "w"), attr("p:b", "v", "1")},
		{open("p:a", "u"), declare("p", "u"), attr("p:b", "v", "1"), declare("p", "w")},
	} {
		tells(t, `<ns0:a xmlns:ns0="u" xmlns:ns1="v" xmlns:p="w" ns1:b="1"></ns0:a>`, append(l, ends)...)
	}
	tells(t, `<ns0:a xmlns:ns0="u" xmlns:p="v" p:b="1"></ns0:a>`, open("p:a", "u"), attr("p:b", "v", "1"), declare("p", "v"), ends)
}

func TestBuiltTree(t *testing.T) { // P14.5: an example by hand
	b := build(t, open("p:a", "u"), attr("p:b", "v", "1"), declare("", "w"), declare("q", "x"), open("p:c", "v"), attr("q:d", "y", "2"), open("e", ""), ends, open("f", "w"), ends, ends, ends)
	l, _ := b.Tokens()
	tree, e := xdm.Build(l...)
	if e != api.OK {
		t.Fatal(written(l), e)
	}
	want := []api.Name{{}, {Uri: "u", Local: "a"}, {Uri: "v", Local: "b"}, {Uri: "v", Local: "c"}, {Uri: "y", Local: "d"}, {Local: "e"}, {Uri: "w", Local: "f"}}
	for n, name := range want {
		if got := tree.Name(n); got.Uri != name.Uri || got.Local != name.Local {
			t.Error(n, got)
		}
	}
	if got := fmt.Sprint(tree.Scope(1)); got != "[{ w} {ns0 v} {p u} {q x}]" {
		t.Error(got)
	}
}

func TestManyDeclarations(t *testing.T) { // P1: it ends, in good time
	b := xbuild.New()
	for range api.MaxDeep {
		b.Open(named("p:a", "u"))
		b.Declare("p", "v")
		for i := range 2000 {
			b.Declare(fmt.Sprint("ns", i), "w")
		}
	}
	for b.Deep() > 1 {
		b.Close()
	}
	for range api.MaxNodes - api.MaxDeep {
		b.Open(named("a", ""))
		b.Declare("p", "v")
		b.Close()
	}
	b.Close()
	l, e := b.Tokens()
	if e != api.OK || l[0].Name != "ns2000:a" || l[1].Name != "ns2001:a" || len(l[0].Attrs) != 2002 || len(l[1].Attrs) != 1 || len(l) != 2*api.MaxNodes {
		t.Error(e, l[0].Name, l[1].Name, len(l))
	}
}
