package xvalue

import (
	"iter"
	"slices"
	"strings"
	"unicode/utf8"

	"stencil/api"
	"stencil/xchar"
	"stencil/xnum"
)

func boolean(a arguments) answer { return aTruth(a.truth(0)) }

func not(a arguments) answer { return aTruth(!a.truth(0)) }

func yes(arguments) answer { return aTruth(true) }

func no(arguments) answer { return aTruth(false) }

func number(a arguments) answer { return aNumber(a.number(0)) }

func floor(a arguments) answer { return aNumber(xnum.Floor(a.number(0))) }

func ceiling(a arguments) answer { return aNumber(xnum.Ceiling(a.number(0))) }

func round(a arguments) answer { return aNumber(xnum.Round(a.number(0))) }

func sum(a arguments) answer {
	total := xnum.Int(0)
	for _, n := range numbersOf(a.tree, a.list[0]) {
		total = xnum.Add(total, n)
	}
	return aNumber(total)
}

func count(a arguments) answer { return aNumber(xnum.Int(len(a.list[0].Nodes))) }

func text(a arguments) answer { return aText(a.text(0)) }

func concat(a arguments) answer {
	var all strings.Builder
	for i := range a.list {
		all.WriteString(a.text(i))
	}
	return aText(all.String())
}

func startsWith(a arguments) answer { return aTruth(strings.HasPrefix(a.text(0), a.text(1))) }

func contains(a arguments) answer { return aTruth(strings.Contains(a.text(0), a.text(1))) }

func substringBefore(a arguments) answer {
	ahead, _, ok := strings.Cut(a.text(0), a.text(1))
	if !ok {
		return aText("")
	}
	return aText(ahead)
}

func substringAfter(a arguments) answer {
	_, behind, _ := strings.Cut(a.text(0), a.text(1))
	return aText(behind)
}

func stringLength(a arguments) answer { return aNumber(xnum.Int(xchar.Count(a.text(0)))) }

func normalizeSpace(a arguments) answer { return aText(xchar.Trim(a.text(0))) }

func translate(a arguments) answer {
	places := map[string]int{}
	for place, c := range slices.Collect(characters(a.text(1))) {
		if _, known := places[c]; !known {
			places[c] = place
		}
	}
	others := slices.Collect(characters(a.text(2)))
	var changed strings.Builder
	for c := range characters(a.text(0)) {
		place, known := places[c]
		switch {
		case !known:
			changed.WriteString(c)
		case place < len(others):
			changed.WriteString(others[place])
		}
	}
	return aText(changed.String())
}

// characters yields them as pieces of the text, so that bytes that are no part of one stay what they are.
func characters(s string) iter.Seq[string] {
	return func(yield func(string) bool) {
		for s != "" {
			_, width := utf8.DecodeRuneInString(s)
			if !yield(s[:width]) {
				return
			}
			s = s[width:]
		}
	}
}

func substring(a arguments) answer {
	s := a.text(0)
	first := xnum.Round(a.number(1))
	behind := api.Num{Kind: api.PlusInf}
	if len(a.list) > 2 {
		behind = xnum.Add(first, xnum.Round(a.number(2)))
	}
	if isNaN(first) || isNaN(behind) {
		return aText("")
	}
	return aText(xchar.Cut(s, placesBelow(first, s), placesBelow(behind, s)))
}

// placesBelow is how many of a text's places are below a whole number, or more, if all are.
func placesBelow(n api.Num, s string) int {
	switch n.Kind {
	case api.MinusInf:
		return 0
	case api.PlusInf:
		return len(s)
	}
	return int(min(max(n.V/api.Places-1, 0), int64(len(s))))
}

func formatNumber(a arguments) answer {
	s, fault := xnum.Format(a.number(0), a.text(1))
	told := aText(s)
	told.fault = fault
	return told
}

func name(a arguments) answer {
	first := a.firstName()
	if first.Prefix == "" {
		return aText(first.Local)
	}
	return aText(first.Prefix + ":" + first.Local)
}

func localName(a arguments) answer { return aText(a.firstName().Local) }

func namespaceUri(a arguments) answer { return aText(a.firstName().Uri) }

// firstName is that of the first node, or an empty one.
func (a arguments) firstName() api.Name {
	nodes := a.list[0].Nodes
	if len(nodes) == 0 {
		return api.Name{}
	}
	return a.tree.Name(nodes[0])
}
