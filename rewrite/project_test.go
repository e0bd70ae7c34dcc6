package rewrite_test

import (
	"slices"
	"testing"

	"bowsprit/api"
)

// P16.1, P16.2: rule 4: the lower items stand in the place of columns, each as often as it is asked for.
func TestProjectOverProject(t *testing.T) {
	low := []api.Expr{col(1), eq(0, 1), num(7), lit(text("x")), lit(null), on(api.NOr, is(0, 1), on(api.NIsNull, col(1)))}
	for _, c := range []struct{ item, put api.Expr }{
		{col(0), col(1)}, {col(1), eq(0, 1)}, {col(2), num(7)}, {col(3), lit(text("x"))}, {col(4), lit(null)}, {num(3), num(3)},
		{on(api.NAdd, col(0), col(2)), on(api.NAdd, col(1), num(7))},
		{on(api.NDiv, num(1), on(api.NSub, col(0), col(0))), on(api.NDiv, num(1), on(api.NSub, col(1), col(1)))},
		{all(col(1), col(1), col(5), col(1)), all(low[1], low[1], low[5], low[1])},
		{on(api.NNot, all(col(1), col(5))), on(api.NNot, on(api.NAnd, low[1], low[5]))},
		{on(api.NIsNull, col(3)), on(api.NIsNull, low[3])}, {on(api.NNeg, col(4)), on(api.NNeg, lit(null))},
	} {
		for _, l := range []api.Logic{tableT(), up(tableT(), distinct()), up(tableT(), filter(bad(0, 1))), tree(union(), tableT(), tableT())} {
			tops(t, up(l, project(low...), project(c.item)), 4, up(l, project(c.put)))
			becomes(t, up(l, project(low...), project(c.item)), up(l, project(c.put)))
			becomes(t, up(l, project(low...), project(num(1), c.item, col(0), c.item)), up(l, project(num(1), c.put, col(1), c.put)))
		}
	}
	becomes(t, up(tableT(), project(col(1), col(0)), project(cols(1, 0, 1, 0)...)), up(tableT(), project(cols(0, 1, 0, 1)...)))
}

// P16.1, P16.2, P16.4: rule 4: it does not hold if one lower item is not safe, be it asked for or not; the upper ones may be as they are.
func TestProjectOverUnsafe(t *testing.T) {
	for _, x := range []api.Expr{on(api.NDiv, num(1), col(0)), on(api.NNeg, col(0)), on(api.NAdd, num(1), num(1)), on(api.NSub, col(0), col(0)), on(api.NMul, col(1), num(0)), bad(0, 0), all(is(0, 1), bad(1, 1))} {
		for place := range 4 {
			low := slices.Insert(cols(0, 1, 0), place, x)
			for _, items := range [][]api.Expr{cols(0, 1, 2, 3), {num(1)}, cols(place), {col((place + 1) % 4)}, {on(api.NIsNull, col(place))}} {
				isNot(t, up(tableT(), project(low...), project(items...)))
				stays(t, up(tableT(), project(low...), project(items...)))
			}
		}
		tops(t, up(tableT(), project(cols(1, 0)...), project(x)), 4, up(tableT(), project(putByRule(x, func(c int) api.Expr { return col(1 - c) }))))
		becomes(t, up(tableT(), project(cols(0, 1)...), project(x, x)), up(tableT(), project(x, x)))
	}
}

// P16.1, P16.2: rule 4: what comes of each item has as many nodes as an expression may have, or one is too long.
func TestProjectOfManyNodes(t *testing.T) {
	for _, c := range []struct{ asks, size, nots int }{{1, 500, 500}, {2, 400, 199}, {2, 499, 1}, {4, 200, 197}, {9, 100, 92}, {50, 19, 1}, {1, 1000, 0}, {500, 1, 1}} {
		low := sized(1, c.size)
		if c.size == 1 {
			low = col(0)
		}
		for more := -1; more <= 1; more++ {
			asks := all(slices.Repeat([]api.Expr{col(1)}, c.asks)...)
			for range c.nots + more {
				asks = on(api.NNot, asks)
			}
			kinds := table(0, api.VBool, api.VBool)
			made := putByRule(asks, func(int) api.Expr { return low })
			if len(asks.Nodes) > api.MaxExpr || c.nots+more < 0 {
				continue
			}
			if len(made.Nodes) != 2*c.asks-1-c.asks+c.asks*c.size+c.nots+more {
				t.Fatal(len(made.Nodes))
			}
			for _, l := range []api.Logic{up(kinds, project(num(2), low), project(asks)), up(kinds, project(num(2), low), project(col(0), asks)), up(kinds, project(num(2), low), project(asks, col(0)))} {
				if len(made.Nodes) > api.MaxExpr {
					isNot(t, l)
					stays(t, l)
					continue
				}
				isTopOfRule(t, l, 4)
			}
			if len(made.Nodes) <= api.MaxExpr {
				becomes(t, up(kinds, project(num(2), low), project(col(0), asks)), up(kinds, project(num(2), made)))
			}
		}
	}
}

// P16.1, P16.2: rule 4: so that just some items are too long, in whatever place.
func TestSomeItemsTooLong(t *testing.T) {
	low, wants := sized(1, 600), all(col(0), col(0))
	for place := range 5 {
		items := slices.Insert([]api.Expr{col(0), col(0), num(1), on(api.NNot, col(0))}, place, wants)
		isNot(t, up(tableT(), project(low), project(items...)))
		stays(t, up(tableT(), project(low), project(items...)))
	}
}

// P16.2: of several projects all go into one, till one has an item that is not safe; above that one it begins again.
func TestProjectsOverProjects(t *testing.T) {
	turn, add := project(cols(1, 0)...), project(on(api.NAdd, col(0), num(1)), col(1))
	l := tableT()
	becomes(t, up(l, turn, turn), up(l, project(cols(0, 1)...)))
	becomes(t, up(l, turn, turn, turn), up(l, turn))
	becomes(t, up(l, turn, add), up(l, project(on(api.NAdd, col(1), num(1)), col(0))))
	stays(t, up(l, add, turn))
	becomes(t, up(l, add, turn, turn), up(l, add, project(cols(0, 1)...)))
	becomes(t, up(l, turn, add, turn, turn, turn), up(l, project(on(api.NAdd, col(1), num(1)), col(0)), turn))
	becomes(t, up(l, turn, add, add, turn), up(l, project(on(api.NAdd, col(1), num(1)), col(0)), add, turn))
	becomes(t, up(l, turn, filter(lit(yes)), turn), up(l, project(cols(0, 1)...)))
	stays(t, up(l, turn, filter(is(0, 1)), turn))
	stays(t, up(l, turn, sortBy(1)))
	becomes(t, up(l, project(col(1)), project(slices.Repeat(cols(0), api.MaxWidth)...), project(col(api.MaxWidth-1), num(1))), up(l, project(col(1), num(1))))
}
