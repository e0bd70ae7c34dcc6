package plan_test

import (
	"slices"
	"testing"

	"bowsprit/api"
)

// How a side goes to a join: not at all, to all nodes, to one; or by the hash of columns.
var (
	stays []int
	toAll = []int{-1}
	toOne = []int{-2}
)

// way is a Way, and its Cols.
func way(how []int) (int, []int) {
	switch how[0] {
	case -1:
		return api.WayCast, nil
	case -2:
		return api.WayGather, nil
	}
	return api.WayShuffle, how
}

// joins holds how two sides go to a join on a condition, a Left one or not; it is hashed by columns.
func joins(t *testing.T, a, b side, cond api.Expr, first, second []int, cols ...int) {
	t.Helper()
	x, y := beside(a, b)
	if len(first) > 0 {
		way, by := way(first)
		x = x.sent(way, by...)
	}
	if len(second) > 0 {
		way, by := way(second)
		x, y = sentBeside(x, y, way, by...)
	}
	for _, n := range []api.LNode{join(cond), leftJoin(cond)} {
		comes(t, both(n, x, y, cols...))
	}
}

// The sides of the chapter's tables.
func sideT() side {
	return scanned(scanT(), chapters())
}

func sideV() side {
	return scanned(scanV(), chapters())
}

func sideW() side {
	return scanned(scanW(), chapters())
}

// noPairs are conditions over two sides of two columns of VInt or more each, which have no pairs: they hold nothing equal, or not just two columns of different sides, or something else of them may fault.
func noPairs(left int) []api.Expr {
	pair := eq(0, left)
	return []api.Expr{
		lit(yes), lit(null), eq(0, 1), eq(left, left+1), eq(0, 0), on(api.NEq, col(0), num(1)), on(api.NEq, num(1), col(left)),
		on(api.NLt, col(0), col(left)), on(api.NNe, col(0), col(left)), on(api.NGe, col(0), col(left)),
		on(api.NOr, pair, pair), on(api.NNot, pair), on(api.NNot, all(pair, pair)), on(api.NIsNull, pair), on(api.NEq, pair, lit(yes)),
		on(api.NEq, on(api.NIsNull, col(0)), on(api.NIsNull, col(left))),
		on(api.NEq, on(api.NNeg, col(0)), col(left)), on(api.NEq, on(api.NAdd, col(0), num(0)), col(left)),
		unsafe(), all(unsafe(), pair), all(pair, unsafe()), all(pair, pair, unsafe()), all(pair, on(api.NIsNull, on(api.NNeg, col(0)))),
		on(api.NAnd, pair, all(pair, on(api.NOr, lit(yes), unsafe()))), on(api.NAnd, all(lit(yes), unsafe()), pair),
	}
}

// P19.1: without pairs the second side is cast.
func TestJoinsWithoutPairs(t *testing.T) {
	for _, a := range sides() {
		for _, b := range sides() {
			if isOne(a) || isOne(b) {
				continue
			}
			for _, cond := range []api.Expr{lit(yes), all(eq(0, len(a.kinds())), unsafe())} {
				joins(t, a, b, cond, stays, toAll, a.cols...)
			}
		}
	}
	for _, cond := range noPairs(2) {
		joins(t, sideT(), sideT(), cond, stays, toAll, 0)
	}
	for _, cond := range noPairs(4) {
		joins(t, sideW(), sideV(), cond, stays, toAll)
	}
	becomes(t, nodes(scanT(), scanU(), join(all(unsafe(), eq(0, 2)))),
		cast(scanU()), gathered(scanT(), input(0, ki), join(all(unsafe(), eq(0, 2)))), root(input(1, ki, ki, ki)))
}

// P19.1: one side AtOne and the other one not, either way, and both: all is there, pairs or not.
func TestJoinsAtOne(t *testing.T) {
	for _, a := range sides() {
		for _, b := range sides() {
			first, second := stays, stays
			switch {
			case !isOne(a) && !isOne(b):
				continue
			case !isOne(a):
				first = toOne
			case !isOne(b):
				second = toOne
			}
			left := len(a.kinds())
			for _, cond := range []api.Expr{lit(yes), eq(0, left), eqs(0, left, left+1, 1), unsafe(), all(eq(0, left), unsafe())} {
				joins(t, a, b, cond, first, second)
			}
		}
	}
	one := []api.LNode{scanU(), group(nil, agg(api.AggAll))}
	half := gathered(scanU(), partial(nil, agg(api.AggAll)))
	becomes(t, append(slices.Clone(one), scanT(), join(eq(0, 1))), half, gathered(scanT()), root(input(0, ki), final(0, api.AggAll), input(1, ki, ki), join(eq(0, 1))))
	becomes(t, slices.Concat(nodes(scanT()), one, nodes(leftJoin(eq(0, 2)))), half, gathered(scanT()), root(input(1, ki, ki), input(0, ki), final(0, api.AggAll), leftJoin(eq(0, 2))))
	becomes(t, slices.Concat(one, one, nodes(join(lit(yes)))), half, half, root(input(0, ki), final(0, api.AggAll), input(1, ki), final(0, api.AggAll), join(lit(yes))))
}

// P19.1: one pair, whichever way round its columns stand, among conjuncts that are safe.
func TestJoinsOfOnePair(t *testing.T) {
	conds := func(l, r int) []api.Expr {
		safe := on(api.NOr, on(api.NLt, col(0), num(3)), on(api.NIsNull, col(l)))
		return []api.Expr{eq(l, r), eq(r, l), all(safe, eq(l, r)), all(eq(r, l), safe, lit(yes)), on(api.NAnd, safe, all(lit(null), eq(l, r))), all(eq(l, r), eq(0, 1), on(api.NEq, col(r), num(1)))}
	}
	one := func(a, b side, l, r int, first, second []int, cols ...int) {
		t.Helper()
		for _, cond := range conds(l, len(a.kinds())+r) {
			joins(t, a, b, cond, first, second, cols...)
		}
	}
	one(sideT(), sideW(), 0, 0, stays, []int{0}, 0)
	one(sideT(), sideW(), 0, 3, stays, []int{3}, 0)
	one(sideT(), sideW(), 1, 2, []int{1}, []int{2}, 1)
	one(sideW(), sideT(), 0, 0, []int{0}, stays, 0)
	one(sideW(), sideT(), 3, 0, []int{3}, stays, 3)
	one(sideW(), sideT(), 2, 1, []int{2}, []int{1}, 2)
	one(sideW(), sideW(), 2, 1, []int{2}, []int{1}, 2)
	one(sideT(), sideT(), 0, 0, stays, stays, 0)
	one(sideT(), sideT(), 0, 1, stays, []int{1}, 0) // hashed, but by another column
	one(sideT(), sideT(), 1, 0, []int{1}, stays, 1)
	one(sideT(), sideT(), 1, 1, []int{1}, []int{1}, 1)
	one(sideV(), sideT(), 1, 0, []int{1}, stays, 1) // just some of those by which the first one is hashed
	one(sideV(), sideT(), 1, 1, []int{1}, []int{1}, 1)
	one(sideT(), sideV(), 0, 1, stays, []int{1}, 0) // just some of those by which the second one is
	one(sideT(), sideV(), 1, 1, []int{1}, []int{1}, 1)
	becomes(t, nodes(scanT(), scanT(), join(eq(0, 2))), gathered(scanT(), scanT(), join(eq(0, 2))), root(input(0, ki, ki, ki, ki)))
	becomes(t, nodes(scanU(), scanU(), leftJoin(eq(1, 0))),
		shuffled([]int{0}, scanU()), shuffled([]int{0}, scanU()), gathered(input(0, ki), input(1, ki), leftJoin(eq(1, 0))), root(input(2, ki, ki)))
	becomes(t, nodes(scanU(), scanT(), join(eq(0, 1))),
		shuffled([]int{0}, scanU()), gathered(input(0, ki), scanT(), join(eq(0, 1))), root(input(1, ki, ki, ki)))
}

// P19.1: a first side that is hashed by left columns of pairs: the partners are of the first such pair each, in the order of the columns.
func TestJoinsByFirst(t *testing.T) {
	a, w, v, u := sideT(), sideW(), sideV(), sideT()
	joins(t, a, w, eqs(0, 2, 1, 3), stays, []int{0}, 0)
	joins(t, a, w, eqs(1, 3, 0, 2), stays, []int{0}, 0)
	joins(t, a, w, eqs(0, 3, 0, 2), stays, []int{1}, 0) // one left column and other right ones
	joins(t, a, w, eqs(0, 2, 0, 3), stays, []int{0}, 0)
	joins(t, a, w, eqs(1, 2, 0, 4, 5, 0, 1, 3), stays, []int{2}, 0)
	joins(t, a, w, eqs(0, 2, 0, 2, 2, 0), stays, []int{0}, 0)
	joins(t, a, u, eqs(0, 2, 0, 3), stays, stays, 0)
	joins(t, a, u, eqs(0, 3, 0, 2), stays, []int{1}, 0) // hashed by the partner of a later pair
	joins(t, a, u, eqs(1, 2, 0, 3), stays, []int{1}, 0)
	joins(t, v, w, eqs(1, 4, 3, 5), stays, []int{0, 1}, 1, 3)
	joins(t, v, w, eqs(3, 5, 1, 4), stays, []int{0, 1}, 1, 3)
	joins(t, v, w, eqs(4, 3, 5, 1, 0, 6, 2, 7), stays, []int{1, 0}, 1, 3)
	joins(t, v, w, eqs(1, 4, 3, 4), stays, []int{0, 0}, 1, 3) // one right column twice
	joins(t, v, w, eqs(3, 7, 1, 6, 3, 4, 1, 5), stays, []int{2, 3}, 1, 3)
	joins(t, v, v, eqs(1, 5, 3, 7), stays, stays, 1, 3)
	joins(t, v, v, eqs(3, 7, 1, 5, 1, 7), stays, stays, 1, 3)
	joins(t, v, v, eqs(1, 7, 3, 5), stays, []int{3, 1}, 1, 3) // by the partners in another order
	joins(t, v, v, eqs(1, 7, 1, 5, 3, 7), stays, []int{3, 3}, 1, 3)
	joins(t, v, v, eqs(1, 5, 3, 6), stays, []int{1, 2}, 1, 3) // by some of the partners and others
	joins(t, v, u, eqs(1, 4, 3, 5), stays, []int{0, 1}, 1, 3)
	joins(t, u, v, eqs(0, 3, 1, 5), stays, []int{1}, 0) // by the partner and one more
	turned := v.under(picked(3, 1), 1, 0)
	joins(t, v, turned, eqs(1, 5, 3, 4), stays, stays, 1, 3)
	joins(t, turned, v, eqs(1, 3, 0, 5), stays, stays, 1, 0)
	joins(t, turned, v, eqs(0, 3, 1, 5), stays, []int{3, 1}, 1, 0)
	twice := overTwo(join(eqs(0, 4, 0, 5)), w, w) // by one column twice
	joins(t, twice, w, eqs(0, 8, 0, 9), stays, []int{0, 0}, 0, 0)
	joins(t, twice, overOne(picked(0), twice), eqs(0, 8), stays, stays, 0, 0)
}

// P19.1: a first side that is hashed by others than left columns, or by some of each, or not at all, and a second one that is hashed by right ones.
func TestJoinsBySecond(t *testing.T) {
	a, w, v := sideT(), sideW(), sideV()
	joins(t, w, a, eqs(0, 4, 1, 5), []int{0}, stays, 0)
	joins(t, w, a, eqs(1, 5, 4, 0), []int{0}, stays, 0)
	joins(t, w, a, eqs(2, 4, 1, 4), []int{2}, stays, 2) // one right column and other left ones
	joins(t, w, a, eqs(1, 4, 2, 4), []int{1}, stays, 1)
	joins(t, a, a, eqs(1, 2, 1, 3), []int{1}, stays, 1)
	joins(t, v, a, eqs(1, 4, 2, 5), []int{1}, stays, 1)
	joins(t, w, v, eqs(0, 5, 1, 7), []int{0, 1}, stays, 0, 1)
	joins(t, w, v, eqs(1, 7, 0, 5), []int{0, 1}, stays, 0, 1)
	joins(t, w, v, eqs(1, 7, 0, 5, 3, 5, 2, 7), []int{0, 1}, stays, 0, 1)
	joins(t, w, v, eqs(2, 5, 2, 7), []int{2, 2}, stays, 2, 2)
	joins(t, v, v, eqs(0, 5, 2, 7), []int{0, 2}, stays, 0, 2)
	joins(t, v, v, eqs(3, 5, 2, 7, 0, 4), []int{3, 2}, stays, 3, 2)
	joins(t, v, v, eqs(1, 5, 2, 7), []int{1, 2}, stays, 1, 2) // by a left one and another one
	twice := overOne(picked(0, 1), overTwo(join(eqs(0, 4, 0, 5)), w, w))
	joins(t, w, twice, eqs(3, 5, 2, 4), []int{2, 2}, stays, 2, 2)
}

// P19.1: neither side hashed by what the other one may go to: both go by all pairs.
func TestJoinsByBoth(t *testing.T) {
	a, w, v := sideT(), sideW(), sideV()
	joins(t, w, w, eqs(0, 4, 1, 5, 3, 6), []int{0, 1, 3}, []int{0, 1, 2}, 0, 1, 3)
	joins(t, w, w, eqs(6, 3, 0, 4), []int{3, 0}, []int{2, 0}, 3, 0)
	joins(t, w, w, eqs(0, 4, 0, 5, 1, 5), []int{0, 0, 1}, []int{0, 1, 1}, 0, 0, 1)
	joins(t, w, w, eqs(0, 4, 0, 4, 4, 0), []int{0, 0, 0}, []int{0, 0, 0}, 0, 0, 0)
	joins(t, a, w, eqs(1, 2, 1, 3), []int{1, 1}, []int{0, 1}, 1, 1)
	joins(t, w, a, eqs(1, 5, 0, 5), []int{1, 0}, []int{1, 1}, 1, 0)
	joins(t, v, v, eqs(1, 5, 0, 4), []int{1, 0}, []int{1, 0}, 1, 0) // by some of the pairs' columns and others, both
	joins(t, v, v, eqs(3, 5, 2, 6), []int{3, 2}, []int{1, 2}, 3, 2)
	joins(t, v, w, eqs(1, 4, 2, 5), []int{1, 2}, []int{0, 1}, 1, 2)
	joins(t, w, v, eqs(1, 5, 2, 6), []int{1, 2}, []int{1, 2}, 1, 2)
	joins(t, a, v, eqs(1, 3, 1, 2), []int{1, 1}, []int{1, 0}, 1, 1)
}

// P19.1: MaxWidth pairs, one more of them, what counts for them and what does not; conjuncts between them are no pairs.
func TestJoinsOfManyPairs(t *testing.T) {
	// many is so many pairs of two columns, then another one.
	many := func(count, l, r int, last ...int) api.Expr {
		l2 := append(slices.Repeat([]int{l, r}, count), last...)
		return eqs(l2...)
	}
	rep := func(count, c int, last ...int) []int {
		return append(slices.Repeat([]int{c}, count), last...)
	}
	a, w := sideT(), sideW()
	joins(t, w, w, many(16, 1, 6), rep(16, 1), rep(16, 2), rep(16, 1)...)
	joins(t, w, w, many(17, 1, 6), rep(16, 1), rep(16, 2), rep(16, 1)...)
	joins(t, w, w, many(40, 1, 6), rep(16, 1), rep(16, 2), rep(16, 1)...)
	joins(t, w, w, many(14, 1, 6, 3, 4), rep(14, 1, 3), rep(14, 2, 0), rep(14, 1, 3)...)
	joins(t, w, w, many(15, 1, 6, 3, 4), rep(15, 1, 3), rep(15, 2, 0), rep(15, 1, 3)...)
	joins(t, w, w, many(16, 1, 6, 3, 4), rep(16, 1), rep(16, 2), rep(16, 1)...)
	joins(t, a, w, many(15, 1, 2, 0, 3), stays, []int{1}, 0) // hashed by the last pair's column, and by that of one more
	joins(t, a, w, many(16, 1, 2, 0, 3), rep(16, 1), rep(16, 0), rep(16, 1)...)
	joins(t, w, a, many(15, 0, 5, 1, 4), []int{1}, stays, 1)
	joins(t, w, a, many(16, 0, 5, 1, 4), rep(16, 0), rep(16, 1), rep(16, 0)...)
	joins(t, a, a, many(16, 1, 3, 0, 2), rep(16, 1), rep(16, 1), rep(16, 1)...)
	joins(t, a, a, many(15, 1, 3, 0, 2), stays, stays, 0)
	joins(t, a, w, all(many(17, 1, 2), unsafe()), stays, toAll, 0)
	var others []api.Expr
	for range 20 {
		others = append(others, eq(0, 1), lit(yes), on(api.NIsNull, col(3)))
	}
	joins(t, a, w, all(all(lit(yes), others...), eq(0, 3)), stays, []int{1}, 0)
	joins(t, a, w, all(all(lit(yes), others...), many(16, 1, 2, 0, 3)), rep(16, 1), rep(16, 0), rep(16, 1)...)
}

// P19.1: as many left columns as the first side has, whatever it is: a join, a projection, a group.
func TestWidthOfFirst(t *testing.T) {
	a, w := sideT(), sideW()
	three := overTwo(join(eq(0, 2)), a, scanned(scanU(), chapters()))
	joins(t, three, w, eq(2, 3), []int{2}, []int{0}, 2)
	joins(t, three, w, eq(0, 3), stays, []int{0}, 0)
	joins(t, three, w, eq(0, 2), stays, toAll, 0)
	joins(t, three, three, eqs(3, 0), stays, stays, 0)
	joins(t, three, three, eqs(5, 0), stays, []int{2}, 0)
	joins(t, a.under(picked(0), 0), w, eq(0, 1), stays, []int{0}, 0)
	joins(t, a.under(picked(0, 1, 0), 0), w, eq(2, 3), []int{2}, []int{0}, 2)
	counted := overOne(group([]int{0}, agg(api.AggAll), agg(api.AggAll)), a)
	joins(t, counted, w, eqs(0, 3, 1, 4), stays, []int{0}, 0)
	joins(t, counted, w, eqs(2, 3), []int{2}, []int{0}, 2)
	halves := overOne(group([]int{1}, agg(api.AggSum, col(0))), a)
	joins(t, halves, w, eqs(2, 0), stays, []int{0}, 0)
	joins(t, w, halves, eqs(3, 4), []int{3}, stays, 3)
}
