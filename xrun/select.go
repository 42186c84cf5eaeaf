package xrun

import (
	"stencil/api"
	"stencil/xsort"
)

// selection is the nodes that an expression tells, sorted.
type selection struct {
	expression
	keys []sortKey
}

type sortKey struct {
	expression
	isNumber, isDown bool
}

func (x selection) nodes(f *frame) []int {
	told := x.value(f)
	if told.Kind != api.Nodes {
		demand(api.ErrKind)
	}
	if len(x.keys) == 0 {
		return told.Nodes
	}
	return x.sorted(f, told.Nodes)
}

func (x selection) sorted(f *frame, nodes []int) []int {
	var rows [][]xsort.Key
	for i, n := range nodes {
		at := f.at(spot{n, i + 1, len(nodes)})
		rows = append(rows, x.row(&at))
	}
	var l []int
	for _, place := range xsort.Order(rows...) {
		l = append(l, nodes[place])
	}
	return l
}

// row is what a node is sorted by.
func (x selection) row(f *frame) []xsort.Key {
	var row []xsort.Key
	for _, k := range x.keys {
		row = append(row, k.key(f))
	}
	return row
}

func (k sortKey) key(f *frame) xsort.Key {
	if k.isNumber {
		return xsort.Key{Number: true, Down: k.isDown, Num: k.number(f)}
	}
	return xsort.Key{Down: k.isDown, Text: k.text(f)}
}
