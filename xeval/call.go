package xeval

import (
	"strings"

	"stencil/api"
	"stencil/xnum"
	"stencil/xvalue"
)

// calls are the functions that need a context, by their names.
func calls() map[string]deed {
	return map[string]deed{
		"position": (*machine).position,
		"last":     (*machine).last,
		"lang":     (*machine).lang,
	}
}

func (m *machine) position(*row) api.Errno {
	m.pushNumber(xnum.Int(m.Place))
	return api.OK
}

func (m *machine) last(*row) api.Errno {
	m.pushNumber(xnum.Int(m.Size))
	return api.OK
}

// lang holds the nearest language against another one, of which it may be a kind.
func (m *machine) lang(*row) api.Errno {
	asked := small(xvalue.String(m.tree, m.pop()))
	told, ok := m.language()
	told = small(told)
	m.pushTruth(ok && (told == asked || strings.HasPrefix(told, asked+"-")))
	return api.OK
}

func (m *machine) language() (string, bool) {
	for n := range (spot{m.tree, m.Node}).selfAndAncestors() {
		for _, attr := range m.tree.Attrs(n) {
			if name := m.tree.Name(attr); name.Uri == xmlUri && name.Local == "lang" {
				return m.tree.Text(attr), true
			}
		}
	}
	return "", false
}

// small has a to z for A to Z, and all other bytes as they are.
func small(s string) string {
	b := []byte(s)
	for i, c := range b {
		if 'A' <= c && c <= 'Z' {
			b[i] = c - 'A' + 'a'
		}
	}
	return string(b)
}

func (m *machine) call(r *row) api.Errno {
	told, fault := xvalue.Call(m.tree, r.name, m.popAll(r.count)...)
	m.push(told)
	return fault
}

// callHere calls a function of the context's node.
func (m *machine) callHere(r *row) api.Errno {
	m.pushNodes(m.Node)
	return m.call(r)
}
