package prop_test

import (
	"math"
	"slices"
	"testing"

	"bowsprit/api"
)

// a and b are leaves.
func a() api.LNode {
	return scanT()
}

func b() api.LNode {
	return input(4, ki, ki)
}

// held holds what Kinds says of nodes as they are; -1: they may be.
func held(t *testing.T, place int, l ...api.LNode) {
	t.Helper()
	if place >= 0 {
		mayNot(t, place, l)
		return
	}
	mayBe(t, l, lastOf(must(kindsByRule(l)))...)
}

// P18.1: each operator with each two places, behind none, one, two, three nodes.
func TestEachPlace(t *testing.T) {
	places := []int{-1, 0, 1, 2, 3, 4, -2, math.MaxInt, math.MinInt}
	roots := []api.LNode{a(), b(), join(lit(yes)), filter(lit(yes)), group([]int{0}), picked(0), distinct(), union(), sortBy(-1), partial([]int{0}), final(1, api.AggMin)}
	for _, n := range roots {
		parts := partsByRule[n.Op]
		for has := range 4 {
			for _, p := range places {
				for _, q := range places {
					l := append(slices.Repeat([]api.LNode{b()}, has), at(n, p, q))
					fits := has == parts && (has < 1 && p == -1 || has > 0 && p == 0) && (has < 2 && q == -1 || has == 2 && q == 1)
					if fits {
						held(t, -1, l...)
					} else {
						held(t, has, l...)
					}
				}
			}
		}
	}
}

// P18.1: the order of a tree, and each other one: told at the first node whose parts do not stand so.
func TestOrder(t *testing.T) {
	u, j, d, f := union(), join(lit(yes)), distinct(), final(1, api.AggMin)
	for _, n := range []api.LNode{u, j} {
		held(t, -1, a(), b(), at(n, 0, 1))
		held(t, 2, a(), b(), at(n, 1, 0)) // the other way round
		held(t, 2, a(), b(), at(n, 0, 0)) // a part that stands twice
		held(t, 2, a(), b(), at(n, 1, 1))
		held(t, 1, a(), at(n, 0, 0))
		held(t, 2, a(), b(), at(n, 0, -1)) // a part that is missing
		held(t, 2, a(), b(), at(n, -1, 1))
		held(t, 2, a(), b(), at(n, 0, 2)) // itself, and what stands behind it
		held(t, 2, a(), b(), at(n, 1, 3), at(d, 2, -1))
		held(t, 0, at(n, 1, 2), a(), b()) // the root ahead of its parts
		held(t, 3, a(), b(), a(), at(n, 1, 2))
		held(t, 3, a(), b(), a(), at(n, 0, 1)) // parts that do not stand just ahead of it
		held(t, 3, a(), b(), a(), at(n, 0, 2))
	}
	held(t, -1, a(), at(d, 0, -1), b(), at(u, 1, 2))
	held(t, -1, a(), b(), at(f, 1, -1), at(u, 0, 2))
	held(t, -1, b(), at(f, 0, -1), a(), at(u, 1, 2))
	held(t, 2, b(), a(), at(f, 0, -1), at(u, 2, 1)) // all below the root, the left part's nodes not together
	held(t, 2, b(), a(), at(f, 0, -1), at(u, 1, 2))
	held(t, 3, a(), b(), at(d, 1, -1), at(u, 2, 0))
	held(t, 3, a(), b(), at(d, 1, -1), at(u, 0, 1)) // a node that is a part of two
	held(t, 1, a(), at(u, 0, 0), at(d, 1, -1))
	held(t, 2, a(), b(), at(u, 1, 0), at(d, 2, -1))
	held(t, 2, a(), at(d, 0, -1), at(d, 0, -1))
	held(t, -1, a(), b(), at(u, 0, 1), a(), b(), at(u, 3, 4), at(u, 2, 5))
	held(t, 6, a(), b(), at(u, 0, 1), a(), b(), at(u, 3, 4), at(u, 5, 2))
	held(t, 5, a(), b(), at(u, 0, 1), a(), b(), at(u, 2, 4), at(u, 3, 5))
	held(t, 0, at(d, 0, -1))
	held(t, 0, at(d, -1, -1))
	held(t, 0, at(f, 1, -1), b())
	held(t, 1, b(), at(f, 1, -1))
	held(t, 1, b(), at(f, 0, 0))
	held(t, 0, at(b(), 0, -1))
	held(t, 0, at(b(), -1, 0))
	held(t, 1, a(), at(b(), 0, -1))
}

// P18.1: nothing is wrong, but that not all stand below the last node: told there, whatever its operator.
func TestNotAllBelowTheLast(t *testing.T) {
	held(t, 1, a(), b())
	held(t, 2, a(), b(), a())
	for _, n := range []api.LNode{distinct(), sortBy(-1), partial([]int{0}), final(1, api.AggMin), group([]int{0}), filter(lit(yes)), picked(1)} {
		held(t, 2, a(), b(), at(n, 1, -1))
		held(t, 3, b(), a(), b(), at(n, 2, -1))
		held(t, -1, b(), at(n, 0, -1))
	}
	held(t, 2, a(), at(distinct(), 0, -1), b())
	held(t, 3, a(), b(), a(), at(union(), 1, 2))
	held(t, 4, a(), b(), a(), at(union(), 1, 2), at(distinct(), 3, -1))
	for count := 1; count < api.MaxSteps; count++ {
		held(t, count, append(chain(count), b())...)
		held(t, count, append(bushy(count), a())...)
	}
}

// P18.1: of several nodes that are wrong the first one, be it wrong in itself, in its place, or in its kinds.
func TestFirstOfSeveral(t *testing.T) {
	d := distinct()
	wrong := []api.LNode{{Op: 12, B: -1}, at(filter(num(1)), 0, -1), at(filter(lit(yes)), 0, 0), at(d, -1, -1), at(union(), 0, -1), {Op: api.LDistinct, B: -1, Limit: 1}, at(picked(2), 0, -1), at(scanT(), 0, -1), at(sortBy(-1), 0, -1), at(partial([]int{0}), 0, -1), at(final(3), 0, -1), at(input(30, ki), -1, -1), at(input(0, 5), -1, -1)}
	for _, x := range wrong {
		for _, y := range wrong {
			held(t, 1, b(), x, at(y, y.A+1, y.B), at(d, 2, -1))
			held(t, 1, b(), x, at(y, y.A+1, y.B), b())
			held(t, 1, b(), x, at(d, 1, -1), y)
			held(t, 1, b(), x, at(d, 1, -1), at(y, 2, y.B))
		}
	}
	held(t, 0, scan(-1, ki), scan(-1, ki), at(union(), 0, 1))
	held(t, 1, a(), input(-1, ki), at(union(), 1, 0))
	held(t, 2, a(), b(), at(union(), 1, 0), at(filter(num(1)), 2, -1))
	held(t, 2, a(), input(1, ki), at(union(), 0, 1), at(filter(num(1)), 2, -1))
	held(t, 3, a(), b(), a(), at(filter(num(1)), 2, -1)) // the root is wrong twice
	held(t, 1, a(), at(filter(num(1)), 0, -1), b())
	held(t, 1, input(0, ks), at(d, 0, -1), at(filter(num(1)), 1, -1))
}

// chain are as many nodes, one above the other; bushy as flat as they can be.
func chain(count int) []api.LNode {
	return steps(append([]api.LNode{b()}, slices.Repeat([]api.LNode{distinct()}, count-1)...)...)
}

func bushy(count int) []api.LNode {
	var grow func(count int) []api.LNode
	grow = func(count int) []api.LNode {
		switch count {
		case 1:
			return []api.LNode{b()}
		case 2:
			return []api.LNode{b(), final(1, api.AggMin)}
		}
		half := (count - 1) / 2
		return slices.Concat(grow(half), grow(count-1-half), []api.LNode{union()})
	}
	return steps(grow(count)...)
}

// P18.1: no nodes; as many as there may be, in trees of both forms, and one more: that is told ahead of whatever node is wrong.
func TestCounts(t *testing.T) {
	mayNot(t, 0, nil)
	mayNot(t, 0, []api.LNode{})
	mayNot(t, 0, make([]api.LNode, 0, 5))
	for count := 1; count <= api.MaxSteps; count++ {
		mayBe(t, chain(count), ki, ki)
		mayBe(t, bushy(count), ki, ki)
	}
	mayBe(t, append(chain(api.MaxSteps-1), at(sortBy(-1), api.MaxSteps-2, -1)), ki, ki)
	mayBe(t, append(bushy(api.MaxSteps-1), at(partial(nil, agg(api.AggSum, col(0))), api.MaxSteps-2, -1)), ks)
	for _, count := range []int{api.MaxSteps + 1, api.MaxSteps + 2, 100, 1000} {
		mayNot(t, 0, chain(count))
		mayNot(t, 0, bushy(count))
		l := chain(count)
		l[5].Limit = 1
		mayNot(t, 0, l)
	}
	mayNot(t, 0, append(bushy(api.MaxSteps), at(sortBy(-1), api.MaxSteps-1, -1)))
	mayNot(t, 0, make([]api.LNode, 1<<16))
	for place := range api.MaxSteps {
		l := bushy(api.MaxSteps)
		l[place].Limit = -1
		mayNot(t, place, l)
		l = chain(api.MaxSteps)
		l[place].Items = []api.Expr{{}}
		l[api.MaxSteps-1].A = 0
		mayNot(t, place, l)
	}
}
