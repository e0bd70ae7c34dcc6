package logic_test

import (
	"math"
	"slices"
	"testing"

	"bowsprit/api"
	"bowsprit/logic"
)

// a and b are scans that stand alone.
func a() api.LNode {
	return scan(0, api.VInt, api.VText)
}

func b() api.LNode {
	return scan(1, api.VInt, api.VText)
}

// held holds what Check says of nodes; -1: they may be.
func held(t *testing.T, place int, l ...api.LNode) {
	t.Helper()
	if place >= 0 {
		mayNot(t, place, nodes(l...))
		return
	}
	if got, e := logic.Check(nodes(l...)); got != 0 || e != api.OK {
		t.Errorf("%v: %v at %v", l, e, got)
	}
}

// P13.1: each operator with each two places, behind none, one, two, three nodes.
func TestEachPlace(t *testing.T) {
	places := []int{-1, 0, 1, 2, 3, 4, -2, math.MaxInt, math.MinInt}
	for _, root := range each() {
		n := root.Nodes[len(root.Nodes)-1]
		parts := partsByRule[n.Op]
		for has := range 4 {
			for _, p := range places {
				for _, q := range places {
					l := append(slices.Repeat([]api.LNode{a()}, has), at(n, p, q))
					fits := has == parts && (has < 1 && p == -1 || has > 0 && p == 0) && (has < 2 && q == -1 || has == 2 && q == 1)
					if fits {
						held(t, -1, l...)
					} else {
						held(t, has, l...)
					}
				}
			}
		}
	}
}

// P13.1: the order of a tree, and each other one: told at the first node whose parts do not stand so.
func TestOrder(t *testing.T) {
	u, j, d := union(), join(lit(yes)), distinct()
	for _, n := range []api.LNode{u, j} {
		held(t, -1, a(), b(), at(n, 0, 1))
		held(t, 2, a(), b(), at(n, 1, 0)) // the other way round
		held(t, 2, a(), b(), at(n, 0, 0)) // a part that stands twice
		held(t, 2, a(), b(), at(n, 1, 1))
		held(t, 1, a(), at(n, 0, 0))
		held(t, 2, a(), b(), at(n, 0, -1)) // a part that is missing
		held(t, 2, a(), b(), at(n, -1, 1))
		held(t, 2, a(), b(), at(n, -1, -1))
		held(t, 1, a(), at(n, 0, -1))
		held(t, 1, a(), at(n, -1, 0))
		held(t, 2, a(), b(), at(n, 0, 2)) // itself, and what stands behind it
		held(t, 2, a(), b(), at(n, 2, 1))
		held(t, 2, a(), b(), at(n, 1, 3), at(d, 2, -1))
		held(t, 0, at(n, 1, 2), a(), b()) // the root ahead of its parts
		held(t, 3, a(), b(), a(), at(n, 1, 2))
		held(t, 3, a(), b(), a(), at(n, 0, 1)) // parts that do not stand just ahead of it
		held(t, 3, a(), b(), a(), at(n, 0, 2))
	}
	held(t, -1, a(), at(d, 0, -1), b(), at(u, 1, 2))
	held(t, -1, a(), b(), at(d, 1, -1), at(u, 0, 2))
	held(t, 2, a(), b(), at(d, 0, -1), at(u, 2, 1)) // all below the root, the left part's nodes not together
	held(t, 2, a(), b(), at(d, 0, -1), at(u, 1, 2))
	held(t, 3, a(), b(), at(d, 1, -1), at(u, 2, 0))
	held(t, 3, a(), b(), at(d, 1, -1), at(u, 0, 1)) // a node that is a part of two
	held(t, 1, a(), at(u, 0, 0), at(d, 1, -1))
	held(t, 2, a(), b(), at(u, 1, 0), at(d, 2, -1))
	held(t, 2, a(), at(d, 0, -1), at(d, 0, -1))
	held(t, -1, a(), b(), at(u, 0, 1), a(), b(), at(u, 3, 4), at(u, 2, 5))
	held(t, 6, a(), b(), at(u, 0, 1), a(), b(), at(u, 3, 4), at(u, 5, 2))
	held(t, 5, a(), b(), at(u, 0, 1), a(), b(), at(u, 2, 4), at(u, 3, 5))
	held(t, 0, at(d, 0, -1))
	held(t, 0, at(d, -1, -1))
	held(t, 0, at(d, 1, -1), a())
	held(t, 1, a(), at(d, 1, -1))
	held(t, 1, a(), at(d, 0, 0))
	held(t, 0, at(a(), 0, -1))
	held(t, 0, at(a(), -1, 0))
	held(t, 1, a(), at(b(), 0, -1))
}

// P13.1: nothing is wrong, but that not all stand below the root: told there, whatever its operator.
func TestNotAllBelowTheRoot(t *testing.T) {
	d, s := distinct(), sortBy(-1)
	held(t, 1, a(), b())
	held(t, 2, a(), b(), a())
	held(t, 2, a(), b(), at(d, 1, -1))
	held(t, 2, a(), at(d, 0, -1), b())
	held(t, 2, a(), b(), at(s, 1, -1))
	held(t, 3, a(), b(), at(d, 1, -1), at(s, 2, -1))
	held(t, 3, a(), b(), a(), at(union(), 1, 2))
	held(t, 4, a(), b(), a(), at(union(), 1, 2), at(d, 3, -1))
	for count := 1; count < api.MaxLogic; count++ {
		held(t, count, append(chain(count).Nodes, b())...)
		held(t, count, append(bushy(count).Nodes, b())...)
	}
	for _, l := range each() {
		if root := len(l.Nodes) - 1; l.Nodes[root].Op != api.LSort {
			held(t, root+1, append(slices.Clone(l.Nodes), b())...)
		} else {
			held(t, root, append(slices.Clone(l.Nodes), b())...)
		}
	}
}

// P13.1: of several nodes that are wrong the first one, be it wrong in itself, in its place, or in its kinds.
func TestFirstOfSeveral(t *testing.T) {
	d, s := distinct(), at(sortBy(-1), 0, -1)
	wrong := func(n api.LNode) []api.LNode { // over a node at the place 0
		n.A, n.B = 0, -1
		return []api.LNode{n, at(filter(num(1)), 0, -1), at(filter(col(0)), 0, -1), at(filter(lit(yes)), 0, 0), at(d, -1, -1), at(union(), 0, -1), {Op: api.LDistinct, B: -1, Limit: 1}, at(project(), 0, -1), at(scan(0, api.VInt), 0, -1), s}
	}
	for _, x := range wrong(api.LNode{}) {
		for _, y := range wrong(api.LNode{Op: api.LFinal}) {
			y.A++
			held(t, 1, a(), x, y, at(d, 2, -1))
			held(t, 1, a(), x, y)
			held(t, 1, a(), x, y, at(d, 2, -1), a())
			held(t, 1, a(), x, at(d, 1, -1), at(y, 2, y.B))
			held(t, 2, a(), at(d, 0, -1), y, at(x, 2, x.B))
			held(t, 0, x, a(), y)
		}
	}
	held(t, 0, scan(-1, api.VInt), scan(-1, api.VInt), at(union(), 0, 1))
	held(t, 1, a(), scan(-1, api.VInt), at(union(), 1, 0))
	held(t, 2, a(), b(), at(union(), 1, 0), at(filter(num(1)), 2, -1))
	held(t, 2, a(), scan(1, api.VInt), at(union(), 0, 1), at(filter(num(1)), 2, -1))
	held(t, 3, a(), b(), a(), at(filter(num(1)), 2, -1)) // the root is wrong twice
	held(t, 1, a(), at(filter(num(1)), 0, -1), b())
	held(t, 1, a(), s, at(filter(num(1)), 1, -1))
	held(t, 1, a(), s, at(s, 1, -1))
}

// P13.1: no nodes; as many as there may be, in trees of all forms, and one more: that is told ahead of whatever node is wrong.
func TestCounts(t *testing.T) {
	mayNot(t, 0, api.Logic{})
	mayNot(t, 0, api.Logic{Nodes: []api.LNode{}})
	mayNot(t, 0, api.Logic{Nodes: make([]api.LNode, 0, 5)})
	for count := 1; count <= api.MaxLogic; count++ {
		for _, l := range []api.Logic{chain(count), bushy(count)} {
			if len(l.Nodes) != count {
				t.Fatal(len(l.Nodes), count)
			}
			may(t, l, api.VInt, api.VText)
		}
	}
	for _, l := range great() {
		may(t, l, api.VInt, api.VText)
	}
	for _, count := range []int{api.MaxLogic + 1, api.MaxLogic + 2, 100, 1000} {
		mayNot(t, 0, chain(count))
		mayNot(t, 0, bushy(count))
		l := chain(count)
		l.Nodes[5].Limit = 1
		mayNot(t, 0, l)
		l.Nodes[count-1].B = 0
		mayNot(t, 0, l)
	}
	mayNot(t, 0, leaning(api.MaxLogic+1, true))
	mayNot(t, 0, leaning(api.MaxLogic+1, false))
	mayNot(t, 0, tree(sortBy(-1), bushy(api.MaxLogic)))
	mayNot(t, 0, api.Logic{Nodes: make([]api.LNode, 1<<16)})
	for place := range api.MaxLogic {
		l := bushy(api.MaxLogic)
		l.Nodes[place].Limit = -1
		mayNot(t, place, l)
		l = chain(api.MaxLogic)
		l.Nodes[place].Keys = []int{0}
		l.Nodes[api.MaxLogic-1].A = 0
		mayNot(t, place, l)
	}
}
