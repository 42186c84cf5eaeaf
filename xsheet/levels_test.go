package xsheet_test

import (
	"fmt"
	"math/rand"
	"reflect"
	"slices"
	"strings"
	"testing"

	"stencil/api"
	"stencil/xsheet"
)

// brief is a sheet in short: its rules' names and levels, its globals' names and texts, its names to strip, its method.
func brief(s api.Sheet) string {
	var l []string
	for _, r := range s.Rules {
		l = append(l, fmt.Sprint(r.Name, r.Match, "/", r.Level))
	}
	for _, g := range s.Globals {
		l = append(l, "$"+g.Name+"="+g.Select)
	}
	for _, name := range s.Strip {
		l = append(l, "-"+name)
	}
	return strings.Join(append(l, fmt.Sprint(s.Method, s.Wide)), " ")
}

func imports(names ...string) string {
	s := ""
	for _, name := range names {
		s += "<x:import href='" + name + "'/>"
	}
	return s
}

func includes(names ...string) string {
	return strings.ReplaceAll(imports(names...), "import", "include")
}

func rule(name string) string { return "<x:template match='" + name + "'/>" }

func TestLevels(t *testing.T) { // P11.2: what counts less stands ahead
	for _, c := range []struct {
		want string
		l    []api.Resource
	}{
		{"a/0 b/0", named("s", sheetOf(rule("a")+rule("b")))},
		{"b/1 a/0", named("s", sheetOf(imports("i")+rule("a")), "i", sheetOf(rule("b")))},
		{"b/2 c/1 a/0", named("s", sheetOf(imports("i", "j")+rule("a")), "i", sheetOf(rule("b")), "j", sheetOf(rule("c")))},
		{"b/2 b/1 a/0", named("s", sheetOf(imports("i", "i")+rule("a")), "i", sheetOf(rule("b")))},
		// What is imported by what is imported.
		{"d/4 b/3 e/2 c/1 a/0", named("s", sheetOf(imports("i", "j")+rule("a")), "i", sheetOf(imports("k")+rule("b")), "j", sheetOf(imports("l")+rule("c")), "k", sheetOf(rule("d")), "l", sheetOf(rule("e")))},
		{"c/2 b/1 a/0", named("s", sheetOf(imports("i")+rule("a")), "i", sheetOf(imports("j")+rule("b")), "j", sheetOf(rule("c")))},
		// A stylesheet without rules counts too.
		{"c/2 a/0", named("s", sheetOf(imports("i")+rule("a")), "i", sheetOf(imports("j")), "j", sheetOf(rule("c")))},
		{"b/2", named("s", sheetOf(imports("i", "j")), "i", sheetOf(rule("b")), "j", sheetOf(""))},
		// Includes, at their place.
		{"a/0 b/0 c/0", named("s", sheetOf(rule("a")+includes("i")+rule("c")), "i", sheetOf(rule("b")))},
		{"b/0 a/0 b/0 b/0", named("s", sheetOf(includes("i")+rule("a")+includes("i", "i")), "i", sheetOf(rule("b")))},
		{"a/0 b/0 c/0 d/0 e/0", named("s", sheetOf(rule("a")+includes("i")+rule("e")), "i", sheetOf(rule("b")+includes("j")+rule("d")), "j", sheetOf(rule("c")))},
		// What an include imports counts less than what includes it, and more than what that imports.
		{"b/2 c/1 a/0 d/0 e/0", named("s", sheetOf(imports("i")+rule("a")+includes("j")+rule("e")), "i", sheetOf(rule("b")), "j", sheetOf(imports("k")+rule("d")), "k", sheetOf(rule("c")))},
		{"c/2 d/1 a/0 i/0 j/0", named("s", sheetOf(rule("a")+includes("i", "j")), "i", sheetOf(imports("k")+rule("i")), "j", sheetOf(imports("l")+rule("j")), "k", sheetOf(rule("c")), "l", sheetOf(rule("d")))},
		// What an import includes is of the import's level.
		{"b/1 c/1 a/0", named("s", sheetOf(imports("i")+rule("a")), "i", sheetOf(rule("b")+includes("j")), "j", sheetOf(rule("c")))},
		{"d/3 b/2 c/2 e/1 a/0", named("s", sheetOf(imports("i", "e")+rule("a")), "i", sheetOf(rule("b")+includes("j")), "j", sheetOf(imports("k")+rule("c")), "k", sheetOf(rule("d")), "e", sheetOf(rule("e")))},
	} {
		s, e := xsheet.Load("s", c.l...)
		if got := strings.TrimSuffix(brief(s), " 0 false"); e != api.OK || got != c.want {
			t.Errorf("%v: %s, %d, want %s", c.l, got, e, c.want)
		}
	}
}

func TestWhatCountsMost(t *testing.T) { // P11.2: globals, names to strip, outputs of several levels
	variable := func(name, value string) string {
		return "<x:variable name='" + name + "' select='" + value + "'/>"
	}
	for _, c := range []struct {
		want string
		l    []api.Resource
	}{
		{"$a=2 0 false", named("s", sheetOf(imports("i")+variable("a", "2")), "i", sheetOf(variable("a", "1")))},
		{"$b=2 $a=1 $c=4 0 false", named("s", sheetOf(imports("i")+variable("a", "1")+variable("c", "4")), "i", sheetOf(variable("a", "3")+variable("b", "2")+variable("c", "5")))},
		{"$b=1 $a=3 $c=4 0 false", named("s", sheetOf(imports("i", "j")+variable("c", "4")), "i", sheetOf(variable("a", "2")+variable("b", "1")), "j", sheetOf(variable("a", "3")))},
		{"$a=1 $b=2 $c=3 0 false", named("s", sheetOf(variable("a", "1")+includes("i")+variable("c", "3")), "i", sheetOf(variable("b", "2")))},
		{"$a=2 0 false", named("s", sheetOf(imports("i")+"<x:param name='a' select='2'/>"), "i", sheetOf(variable("a", "1")))},
		{"$a=1 $A=2 $p:a=3 0 false", named("s", sheetOf(imports("i")+variable("A", "2")+variable("p:a", "3")), "i", sheetOf(variable("a", "1")))},
		{"-b -c -a -b 0 false", named("s", sheetOf(imports("i", "j")+"<x:strip-space elements='a b'/>"), "i", sheetOf("<x:strip-space elements='b'/>"), "j", sheetOf("<x:strip-space elements='c'/>"))},
		{"-a -b -c 0 false", named("s", sheetOf("<x:strip-space elements='a'/>"+includes("i")+"<x:strip-space elements='c'/>"), "i", sheetOf("<x:strip-space elements='b'/>"))},
		{"1 true", named("s", sheetOf(imports("i")+"<x:output method='html'/>"), "i", sheetOf("<x:output method='text' encoding='utf-16'/>"))},
		{"2 false", named("s", sheetOf(imports("i")+"<x:output encoding='utf-8'/>"), "i", sheetOf("<x:output method='text' encoding='utf-16'/>"))},
		{"0 false", named("s", sheetOf(imports("i")+"<x:output method='xml'/>"), "i", sheetOf("<x:output method='text'/>"))},
		{"2 false", named("s", sheetOf(imports("i", "j")), "i", sheetOf("<x:output method='html'/>"), "j", sheetOf("<x:output method='text'/>"))},
		{"1 false", named("s", sheetOf(includes("i")+"<x:output method='html'/>"), "i", sheetOf("<x:output method='text'/>"))},
		{"2 false", named("s", sheetOf("<x:output method='html'/>"+includes("i")), "i", sheetOf("<x:output method='text'/>"))},
		{"1 false", named("s", sheetOf("<x:output method='html'/>"+includes("i")), "i", sheetOf(imports("j")), "j", sheetOf("<x:output method='text'/>"))},
	} {
		s, e := xsheet.Load("s", c.l...)
		if got := brief(s); e != api.OK || got != c.want {
			t.Errorf("%v: %s, %d, want %s", c.l, got, e, c.want)
		}
	}
}

// unit is a stylesheet with all that it includes: what stands in it, and from where it is imported.
type unit struct {
	path  []int // of each import from the first stylesheet on: the how manieth of its unit it is
	rules []string
	vars  []string
	strip []string
	outs  []int
}

// countsMore asks by the chapter's words: a stylesheet counts more than what it imports, and of what one imports the later one with all that it imports.
func (u *unit) countsMore(v *unit) bool {
	for i := range min(len(u.path), len(v.path)) {
		if u.path[i] != v.path[i] {
			return u.path[i] > v.path[i]
		}
	}
	return len(u.path) < len(v.path)
}

// library makes stylesheets by chance, and what should come of them.
type library struct {
	*rand.Rand
	units     []*unit
	resources []api.Resource
	imports   map[*unit]int
	serial    int
}

func (l *library) sheet(u *unit, deep int) string {
	name := fmt.Sprint("r", len(l.resources))
	place := len(l.resources)
	l.resources = append(l.resources, api.Resource{Name: name})
	s := ""
	for deep > 0 && len(l.resources) < api.MaxSheets-4 && l.Intn(3) > 0 {
		other := &unit{path: append(slices.Clone(u.path), l.imports[u])}
		l.imports[u]++
		l.units = append(l.units, other)
		s += "<x:import href='" + l.sheet(other, deep-1) + "'/>"
	}
	for range l.Intn(6) {
		l.serial++
		one := fmt.Sprint("n", l.serial)
		switch l.Intn(6) {
		case 0, 1:
			s += "<x:template match='" + one + "'/>"
			u.rules = append(u.rules, one)
		case 2:
			// Of few names, but none twice in a unit.
			if name := fmt.Sprint("v", l.Intn(4)); !slices.ContainsFunc(u.vars, func(v string) bool { return strings.HasPrefix(v, name) }) {
				s += "<x:variable name='" + name + "' select='" + one + "'/>"
				u.vars = append(u.vars, name+"="+one)
			}
		case 3:
			s += "<x:strip-space elements='" + one + "'/>"
			u.strip = append(u.strip, one)
		case 4:
			method := l.Intn(3)
			s += "<x:output method='" + []string{"xml", "html", "text"}[method] + "'/>"
			u.outs = append(u.outs, method)
		case 5:
			if deep > 0 && len(l.resources) < api.MaxSheets-4 {
				s += "<x:include href='" + l.sheet(u, deep-1) + "'/>"
			}
		}
	}
	l.resources[place].Text = sheetOf(s)
	return name
}

// told is what a sheet of all units is in short.
func (l *library) told() string {
	level := func(u *unit) int {
		n := 0
		for _, v := range l.units {
			if v.countsMore(u) {
				n++
			}
		}
		return n
	}
	slices.SortFunc(l.units, func(a, b *unit) int { return level(b) - level(a) })
	var rules, vars, strip []string
	method := 0
	for i, u := range l.units {
		for _, r := range u.rules {
			rules = append(rules, fmt.Sprint(r, "/", level(u)))
		}
		for _, v := range u.vars {
			hidden := slices.ContainsFunc(l.units[i+1:], func(o *unit) bool {
				return slices.ContainsFunc(o.vars, func(w string) bool { return w[:2] == v[:2] })
			})
			if !hidden {
				vars = append(vars, "$"+v)
			}
		}
		for _, name := range u.strip {
			strip = append(strip, "-"+name)
		}
		if len(u.outs) > 0 {
			method = u.outs[len(u.outs)-1]
		}
	}
	return strings.Join(append(slices.Concat(rules, vars, strip), fmt.Sprint(method, false)), " ")
}

func TestManyLevels(t *testing.T) { // P11.2, P11.7: imports and includes by chance
	chance := rand.New(rand.NewSource(1))
	deepest := 0
	for range 3000 {
		u := &unit{}
		l := &library{Rand: chance, units: []*unit{u}, imports: map[*unit]int{}}
		first := l.sheet(u, 4)
		s, e := xsheet.Load(first, l.resources...)
		if got, want := brief(s), l.told(); e != api.OK || got != want {
			t.Fatalf("%v: %s, %d, want %s", l.resources, got, e, want)
		}
		deepest = max(deepest, len(l.units))
		// P11.7: a rule stands behind those that count less, and levels fall.
		for i, r := range s.Rules {
			if i > 0 && s.Rules[i-1].Level < r.Level {
				t.Fatal(brief(s))
			}
		}
	}
	if deepest < 8 {
		t.Error("too few levels", deepest)
	}
}

func TestIncluded(t *testing.T) { // P11.5: as if its rules stood there
	chance := rand.New(rand.NewSource(2))
	for range 300 {
		var parts []string
		for i := range 1 + chance.Intn(8) {
			parts = append(parts, []string{
				fmt.Sprintf("<x:template match='a%d' name='n%d'>t<o><x:value-of select='%d'/></o></x:template>", i, i, i),
				fmt.Sprintf("<x:variable name='v%d' select='%d'/>", i, i),
				fmt.Sprintf("<x:param name='p%d'>u</x:param>", i),
				fmt.Sprintf("<x:strip-space elements='a%d x:b'/>", i),
				"<x:output method='html'/>", "<x:output method='text' encoding='utf-16'/>", "\n", "<!--c-->",
			}[chance.Intn(8)])
		}
		from := chance.Intn(len(parts) + 1)
		to := from + chance.Intn(len(parts)-from+1)
		inner := strings.Join(parts[from:to], "")
		outer := strings.Join(parts[:from], "") + "<x:include href='i'/>" + strings.Join(parts[to:], "")
		want, e := xsheet.Load("s", named("s", sheetOf(strings.Join(parts, "")))...)
		got, f := xsheet.Load("s", named("s", sheetOf(outer), "i", sheetOf(inner))...)
		if e != api.OK || f != api.OK || !reflect.DeepEqual(got, want) || xsheet.Size(got) != xsheet.Size(want) {
			t.Fatalf("%s, %s: %+v, %d, want %+v, %d", outer, inner, got, f, want, e)
		}
	}
}
