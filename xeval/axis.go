package xeval

import (
	"iter"
	"slices"
	"sort"

	"stencil/api"
	"stencil/xdm"
)

// spot is a node from which axes go.
type spot struct {
	tree *xdm.Tree
	node int
}

// walk yields the nodes on an axis, the nearest one first.
type walk func(spot) iter.Seq[int]

func walks() map[api.Axis]walk {
	return map[api.Axis]walk{
		api.Child:            spot.children,
		api.Descendant:       spot.descendants,
		api.Parent:           spot.parent,
		api.Ancestor:         spot.ancestors,
		api.FollowingSibling: spot.followingSiblings,
		api.PrecedingSibling: spot.precedingSiblings,
		api.Following:        spot.following,
		api.Preceding:        spot.preceding,
		api.Attribute:        spot.attributes,
		api.Self:             spot.self,
		api.DescendantOrSelf: spot.selfAndDescendants,
		api.AncestorOrSelf:   spot.selfAndAncestors,
	}
}

func (s spot) children() iter.Seq[int] { return slices.Values(s.tree.Kids(s.node)) }

func (s spot) attributes() iter.Seq[int] { return slices.Values(s.tree.Attrs(s.node)) }

func (s spot) self() iter.Seq[int] { return slices.Values([]int{s.node}) }

func (s spot) selfAndDescendants() iter.Seq[int] { return joined(s.self(), s.descendants()) }

func (s spot) selfAndAncestors() iter.Seq[int] { return joined(s.self(), s.ancestors()) }

// joined yields what each of several yields, one behind the other.
func joined(all ...iter.Seq[int]) iter.Seq[int] {
	return func(yield func(int) bool) {
		for _, one := range all {
			for n := range one {
				if !yield(n) {
					return
				}
			}
		}
	}
}

func (s spot) parent() iter.Seq[int] {
	return func(yield func(int) bool) {
		for n := range s.ancestors() {
			yield(n)
			return
		}
	}
}

func (s spot) ancestors() iter.Seq[int] {
	return func(yield func(int) bool) {
		for n := s.tree.Parent(s.node); n >= 0 && yield(n); {
			n = s.tree.Parent(n)
		}
	}
}

func (s spot) descendants() iter.Seq[int] { return s.without(s.node+1, s.end()) }

func (s spot) following() iter.Seq[int] { return s.without(s.end(), s.tree.Len()) }

// end is the first number behind the node and all that lies in it.
func (s spot) end() int {
	next := s.node + 1
	return next + sort.Search(s.tree.Len()-next, func(i int) bool { return !s.holds(next + i) })
}

// holds tells whether a node lies in it.
func (s spot) holds(n int) bool {
	for n > s.node {
		n = s.tree.Parent(n)
	}
	return n == s.node
}

// without yields the nodes from a number on, below another one, but attributes.
func (s spot) without(from, to int) iter.Seq[int] {
	return func(yield func(int) bool) {
		for n := from; n < to; n++ {
			if s.tree.Kind(n) != api.Attr && !yield(n) {
				return
			}
		}
	}
}

func (s spot) preceding() iter.Seq[int] {
	return func(yield func(int) bool) {
		around := s.tree.Parent(s.node)
		for n := s.node - 1; n >= 0; n-- {
			switch {
			case n == around:
				around = s.tree.Parent(n)
			case s.tree.Kind(n) != api.Attr && !yield(n):
				return
			}
		}
	}
}

func (s spot) followingSiblings() iter.Seq[int] {
	_, behind := s.siblings()
	return slices.Values(behind)
}

func (s spot) precedingSiblings() iter.Seq[int] {
	ahead, _ := s.siblings()
	slices.Reverse(ahead)
	return slices.Values(ahead)
}

// siblings are those ahead of the node, and those behind; attributes are not among what they lie in, and have none.
func (s spot) siblings() (ahead, behind []int) {
	all := s.tree.Kids(s.tree.Parent(s.node))
	place, ok := slices.BinarySearch(all, s.node)
	if !ok {
		return nil, nil
	}
	return all[:place], all[place+1:]
}
