package xeval

import (
	"stencil/api"
	"stencil/xdm"
)

// nodeTest is what a step asks of a node.
type nodeTest struct {
	test       api.Test
	named      api.Kind // what nodes must be to be asked for their names
	uri, local string
}

func (x nodeTest) takes(t *xdm.Tree, n int) bool {
	kind, name := t.Kind(n), t.Name(n)
	switch x.test {
	case api.AnyName:
		return kind == x.named
	case api.AnyLocal:
		return kind == x.named && name.Uri == x.uri
	case api.OneName:
		return kind == x.named && name.Uri == x.uri && name.Local == x.local
	case api.AnyText:
		return kind == api.Text
	case api.AnyComment:
		return kind == api.Comment
	case api.AnyPi:
		return kind == api.Pi && (x.local == "" || x.local == name.Local)
	}
	return true
}
