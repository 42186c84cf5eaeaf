package xvalue

import (
	"slices"

	"stencil/api"
	"stencil/xdm"
	"stencil/xnum"
)

// Compare compares two values by an Op from Eq to Ge.
func Compare(t *xdm.Tree, op api.Op, a, b api.Value) bool {
	if op < api.Eq || op > api.Ge {
		return false
	}
	// Beside a truth nodes are no more than one themselves.
	if b.Kind == api.Bools {
		a = withoutNodes(t, a)
	}
	if a.Kind == api.Bools {
		b = withoutNodes(t, b)
	}
	if op == api.Eq || op == api.Ne {
		if isEither(api.Bools, a, b) {
			return (Bool(t, a) == Bool(t, b)) == (op == api.Eq)
		}
		if !isEither(api.Numbers, a, b) {
			return textsAreSo(op, textsOf(t, a), textsOf(t, b))
		}
	}
	return numbersAreSo(op, numbersOf(t, a), numbersOf(t, b))
}

func isEither(kind api.ValueKind, a, b api.Value) bool {
	return a.Kind == kind || b.Kind == kind
}

func withoutNodes(t *xdm.Tree, v api.Value) api.Value {
	if v.Kind == api.Nodes {
		return api.Value{Kind: api.Bools, Bool: Bool(t, v)}
	}
	return v
}

// textsOf are the strings that a value may stand in for: of nodes each one's.
func textsOf(t *xdm.Tree, v api.Value) []string {
	if v.Kind != api.Nodes {
		return []string{String(t, v)}
	}
	texts := make([]string, 0, len(v.Nodes))
	for _, n := range v.Nodes {
		texts = append(texts, t.String(n))
	}
	return texts
}

func numbersOf(t *xdm.Tree, v api.Value) []api.Num {
	if v.Kind != api.Nodes {
		return []api.Num{Number(t, v)}
	}
	numbers := make([]api.Num, 0, len(v.Nodes))
	for _, n := range v.Nodes {
		numbers = append(numbers, xnum.Parse(t.String(n)))
	}
	return numbers
}

// textsAreSo tells whether there is one of each list, so that both are equal, or are not.
func textsAreSo(op api.Op, a, b []string) bool {
	if op == api.Eq {
		return someEqual(a, b)
	}
	return someUnequal(a, b)
}

// numbersAreSo likewise; both lists are its own, to be changed.
func numbersAreSo(op api.Op, a, b []api.Num) bool {
	if op == api.Ne {
		// Where all are alike, they may still be NaN, which is not equal to itself.
		return someUnequal(a, b) || len(a) > 0 && len(b) > 0 && isNaN(a[0])
	}
	a, b = slices.DeleteFunc(a, isNaN), slices.DeleteFunc(b, isNaN)
	if len(a) == 0 || len(b) == 0 {
		return false
	}
	// The most unlike ones tell of all pairs: there may be millions of these.
	switch op {
	case api.Lt:
		return order(least(a), greatest(b)) < 0
	case api.Le:
		return order(least(a), greatest(b)) <= 0
	case api.Gt:
		return order(greatest(a), least(b)) > 0
	case api.Ge:
		return order(greatest(a), least(b)) >= 0
	}
	return someEqual(a, b)
}

func someEqual[T comparable](a, b []T) bool {
	places := map[T]int{}
	for place, x := range a {
		places[x] = place
	}
	for _, x := range b {
		if _, ok := places[x]; ok {
			return true
		}
	}
	return false
}

// someUnequal: if any two of all are unlike, one of them is unlike one of the other list.
func someUnequal[T comparable](a, b []T) bool {
	if len(a) == 0 || len(b) == 0 {
		return false
	}
	unlike := func(x T) bool { return x != a[0] }
	return slices.ContainsFunc(a, unlike) || slices.ContainsFunc(b, unlike)
}

func isNaN(n api.Num) bool { return n.Kind == api.NaN }

func order(a, b api.Num) int {
	by, _ := xnum.Compare(a, b)
	return by
}

func least(l []api.Num) api.Num { return slices.MinFunc(l, order) }

func greatest(l []api.Num) api.Num { return slices.MaxFunc(l, order) }
