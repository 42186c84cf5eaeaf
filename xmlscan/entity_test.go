package xmlscan_test

import (
	"fmt"
	"strings"
	"testing"

	"stencil/api"
	"stencil/xmlscan"
)

// typed is a document type with entities, each as name=text.
func typed(entities ...string) string {
	s := "<!DOCTYPE a ["
	for _, x := range entities {
		name, text, _ := strings.Cut(x, "=")
		s += "<!ENTITY " + name + " \"" + text + "\">"
	}
	return s + "]>"
}

func TestEntities(t *testing.T) { // P3.1: what entities come to
	for _, x := range []struct{ entities, in, want string }{
		{"e=v", "<a>&e;</a>", `E[a]T["v"]e[a]`},
		{"e=v", "<a>x&e;y&e;z</a>", `E[a]T["xvyvz"]e[a]`},
		{"e==v=>", "<a b='&e;'>&e;</a>", `E[a b="=v=>"]T["=v=>"]e[a]`},
		{"e=v", "<a b='x&e;y'/>", `E[a b="xvy"]e[a]`},
		{"e=", "<a b='&e;'>&e;</a>", `E[a b=""]e[a]`},
		{"e=", "<a>&e;<b/>&e;x&e;</a>", `E[a]E[b]e[b]T["x"]e[a]`},
		{"e=1|e=2", "<a>&e;</a>", `E[a]T["1"]e[a]`},
		{"é=v", "<a>&é;</a>", `E[a]T["v"]e[a]`},
		{"e=&lt;b/&gt;&amp;lt;&apos;&quot;", "<a b='&e;'>&e;</a>", `E[a b="<b/>&lt;'\""]T["<b/>&lt;'\""]e[a]`},
		{"e=&#60;&#x26;#60;", "<a>&e;</a>", `E[a]T["<&#60;"]e[a]`},
		{"e=x&f;y|f=z", "<a>&e;&f;</a>", `E[a]T["xzyz"]e[a]`},
		{"f=z|e=&f;&f;", "<a b='&e;'>&e;</a>", `E[a b="zz"]T["zz"]e[a]`},
		{"e=&f;|f=1|f=2", "<a>&e;</a>", `E[a]T["1"]e[a]`},
		{"lt=x|e=&lt;", "<a>&lt;&e;</a>", `E[a]T["<<"]e[a]`},
		// Blanks that are no references are spaces in attributes alone.
		{"e=x\ty\nz\r ", "<a b='&e;'>&e;</a>", `E[a b="x y z  "]T["x\ty\nz\r "]e[a]`},
		{"e=&#9;&f;|f=\t&#10;", "<a b='&e;'>&e;</a>", `E[a b="\t \n"]T["\t\t\n"]e[a]`},
		{"e=]]>", "<a>&e;]]&e;</a>", `E[a]T["]]>]]]]>"]e[a]`},
		{"e='", "<a b='&e;'/>", `E[a b="'"]e[a]`},
		// What is not used need not stand for anything.
		{"e=&x;|f=&f;", "<a/>", `E[a]e[a]`},
	} {
		wantTokens(t, typed(strings.Split(x.entities, "|")...)+x.in, x.want)
	}
}

func TestEntityFaults(t *testing.T) { // P3.1: entities that are not declared, or stand in themselves
	for _, x := range []struct {
		entities, in string
		e            api.Errno
	}{
		{"e=v", "<a>&e;^&x;</a>", api.ErrForm},
		{"e=v", "<a>^&E;</a>", api.ErrForm},
		{"e=&x;", "<a>v^&e;</a>", api.ErrForm},
		{"e=&x;", "<a b='v^&e;'/>", api.ErrForm},
		{"e=&f;|f=&g;", "<a>^&e;</a>", api.ErrForm},
		{"e=&e;", "<a>^&e;</a>", api.ErrLimit},
		{"e=&e;", "<a b='^&e;'/>", api.ErrLimit},
		{"e=&f;|f=x&g;|g=y&e;", "<a>^&f;</a>", api.ErrLimit},
		{"e=&e;", "<a b='^&e;' b='1'/>", api.ErrLimit},
		// The first reference that is wrong counts.
		{"e=&e;&x;", "<a>^&e;</a>", api.ErrLimit},
		{"e=&x;&e;", "<a>^&e;</a>", api.ErrForm},
		{"e=&e;", "<a>^&x;&e;</a>", api.ErrForm},
		{"e=&e;", "<a>^&e;&x;</a>", api.ErrLimit},
		{"e=&e;", "<a>^]]>&e;</a>", api.ErrForm},
	} {
		wantFault(t, typed(strings.Split(x.entities, "|")...)+x.in, x.e)
	}
	wantFault(t, typed("e=&e;")+"^<a b='1' b='&e;'/>", api.ErrForm)
	wantFault(t, "<a>^&e;</a>"+typed("e=v"), api.ErrForm)
}

// chain is n entities, each in the one ahead of it, the innermost one of a text.
func chain(n int, text string) []string {
	var l []string
	for i := 1; i < n; i++ {
		l = append(l, fmt.Sprintf("e%d=&e%d;", i, i+1))
	}
	return append(l, fmt.Sprintf("e%d=%s", n, text))
}

func TestEntityDepth(t *testing.T) { // P3.1: MaxExpand
	// The innermost entity stands in all the others.
	most := api.MaxExpand + 1
	wantTokens(t, typed(chain(most, "v")...)+"<a b='&e1;'>&e1;&lt;</a>", `E[a b="v"]T["v<"]e[a]`)
	wantTokens(t, typed(chain(most, "&lt;&#65;")...)+"<a>&e1;</a>", `E[a]T["<A"]e[a]`)
	wantTokens(t, typed(chain(most+1, "v")...)+"<a>&e2;</a>", `E[a]T["v"]e[a]`)
	wantFault(t, typed(chain(most+1, "v")...)+"<a>&e2;^&e1;</a>", api.ErrLimit)
	wantFault(t, typed(chain(most+1, "v")...)+"<a b='&e2;^&e1;'/>", api.ErrLimit)
	// What is not declared is none at any depth.
	wantFault(t, typed(chain(most, "&x;")...)+"<a>^&e1;</a>", api.ErrForm)
	wantFault(t, typed(chain(most+1, "&x;")...)+"<a>^&e1;</a>", api.ErrLimit)
}

func TestEntityBytes(t *testing.T) { // P3.1: all that entities came to
	k := strings.Repeat("k", 1024)
	refs := func(n int) string { return strings.Repeat("&e;", n) }
	// As many bytes as may be, in texts and attributes together; references of the document cost nothing.
	if _, e, at := xmlscan.Scan(typed("e="+k) + "<a b='" + refs(16) + "'>&lt;&#65;" + refs(16) + "&lt;</a>"); e != api.OK || at != 0 {
		t.Error(e, at)
	}
	wantFault(t, typed("e="+k)+"<a b='"+refs(16)+"'>"+refs(16)+"^&e;</a>", api.ErrLimit)
	wantFault(t, typed("e="+k, "f=v")+"<a b='"+refs(32)+"^&f;'/>", api.ErrLimit)
	wantFault(t, typed("e="+k, "f=")+"<a b='"+refs(32)+"&f;'>&f;^&e;</a>", api.ErrLimit)
	// A reference in an entity costs a byte, and what it comes to; so do the five, and characters, of as many bytes as they have.
	for _, x := range []struct {
		text string
		cost int
	}{{"&f;", 1 + 3}, {"&f;&f;", 8}, {"&g;", 2 + 3}, {"&n;", 1}, {"&n;&n;n", 3}, {"&lt;", 2}, {"&quot;x", 3}, {"&#65;", 2}, {"&#xe9;", 3}, {"&#x1f600;", 5}, {"é", 2}, {"", 0}} {
		head := typed("e="+k, "r="+strings.Repeat("r", 1024-x.cost), "o=o", "x="+x.text, "f=fff", "g=&f;", "n=") + "<a>" + refs(31)
		if _, e, at := xmlscan.Scan(head + "&r;&x;</a>"); e != api.OK {
			t.Errorf("%s: %d, %d", x.text, e, at)
		}
		if x.cost > 0 {
			wantFault(t, head+"&r;&o;^&x;</a>", api.ErrLimit)
		}
		wantFault(t, head+"&r;&x;^&o;</a>", api.ErrLimit)
	}
	// Too much is told ahead of what follows in the entity, what is not declared ahead of too much.
	wantFault(t, typed("e="+k, "x=y&u;")+"<a>"+refs(32)+"^&x;</a>", api.ErrLimit)
	wantFault(t, typed("e="+k, "x=&u;")+"<a>"+refs(32)+"^&x;</a>", api.ErrForm)
}

func TestEntityLaughs(t *testing.T) { // P1, P3.1: entities that would come to very much, or to nothing very often
	for _, text := range []string{"", "v", "&lt;"} {
		l := []string{"e9=" + text}
		for i := 1; i < 9; i++ {
			l = append(l, fmt.Sprintf("e%d=%s", i, strings.Repeat(fmt.Sprintf("&e%d;", i+1), 400)))
		}
		wantFault(t, typed(l...)+"<a>^&e1;</a>", api.ErrLimit)
		wantFault(t, typed(l...)+"<a b='^&e1;'/>", api.ErrLimit)
	}
}
