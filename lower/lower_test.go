package lower_test

import (
	"math"
	"slices"
	"testing"

	"bowsprit/api"
	"bowsprit/lower"
)

// P14.1, P14.2: a catalog that may not be goes ahead of all, whatever else is wrong.
func TestCatalogs(t *testing.T) {
	refused := isNone(t, api.ErrCatalog)
	for _, c := range badCatalogs() {
		for _, s := range []api.BSelect{{}, from(0, num(1)), from(-1), from(9, num(1)), {Tables: make([]int, 1<<16)}, {Tables: []int{0}, Where: num(1), Items: []api.Expr{{}}}} {
			refused(lower.Select(c, s))
			refused(lower.Lower(c, query([]int{api.VInt}, s)))
			refused(lower.Lower(c, query([]int{api.VInt}, slices.Repeat([]api.BSelect{s}, api.MaxSelects+1)...)))
		}
		refused(lower.Lower(c, api.Bound{}))
		for _, text := range []string{"SELECT a FROM t", "", "SELECT", "SELECT a FROM zz", "?", "SELECT b FROM t"} {
			if got, at, e := lower.Query(c, text); e != api.ErrCatalog || at != 0 || !same(got, api.Asked{}) {
				t.Error(got, at, e)
			}
		}
	}
}

// P14.2: no select, one, as many as there may be, and more; each one's own tree, from the left on.
func TestSelects(t *testing.T) {
	c := tables(t, few)
	l := []api.BSelect{
		from(0, col(0)),
		{Tables: []int{1, 3}, Joins: []api.BJoin{{On: lit(yes)}}, Where: on(api.NIsNull, col(2)), Items: []api.Expr{col(4)}},
		{Tables: []int{2}, Grouped: true, Distinct: true, Items: []api.Expr{col(0)}},
	}
	trees := []api.Logic{
		tree(project(col(0)), scanT()),
		tree(project(col(4)), tree(filter(on(api.NIsNull, col(2))), tree(join(false, lit(yes)), scanU(), scanW()))),
		tree(distinct(), tree(project(col(0)), tree(group(nil, agg(api.AggAll)), scanV()))),
	}
	for a := range 3 {
		isTree(t, tree(sortBy(-1), trees[a]))(lower.Lower(c, query([]int{api.VInt}, l[a])))
		for b := range 3 {
			two := tree(union(), trees[a], trees[b])
			isTree(t, tree(sortBy(-1), two))(lower.Lower(c, query([]int{api.VInt}, l[a], l[b])))
			for d := range 3 {
				isTree(t, tree(sortBy(-1), tree(union(), two, trees[d])))(lower.Lower(c, query([]int{api.VInt}, l[a], l[b], l[d])))
				for count := 4; count < 8; count++ {
					isNone(t, api.ErrBound)(lower.Lower(c, query([]int{api.VInt}, slices.Repeat([]api.BSelect{l[a], l[b], l[d]}, 3)[:count]...)))
				}
			}
		}
	}
	refused := isNone(t, api.ErrBound)
	refused(lower.Lower(c, api.Bound{}))
	refused(lower.Lower(c, api.Bound{Limit: -1}))
	refused(lower.Lower(c, api.Bound{Selects: []api.BSelect{}, Names: []string{}, Kinds: []int{}, Limit: -1}))
	refused(lower.Lower(c, query([]int{api.VInt})))
	refused(lower.Lower(c, query([]int{api.VInt}, make([]api.BSelect, 1<<16)...)))
}

// P14.2: by none, by as many columns as there may be, by one more, by columns that are not there; either way round.
func TestOrder(t *testing.T) {
	c := tables(t, few)
	s := from(0, col(0), col(1), num(5))
	kinds := []int{api.VInt, api.VText, api.VInt}
	plain := tree(project(col(0), col(1), num(5)), scanT())
	held := func(order ...api.Ord) {
		t.Helper()
		b := query(kinds, s)
		b.Order = order
		isTree(t, tree(sortBy(-1, order...), plain))(lower.Lower(c, b))
		b.Selects = append(b.Selects, s)
		isTree(t, tree(sortBy(-1, order...), tree(union(), plain, plain)))(lower.Lower(c, b))
	}
	refused := func(order ...api.Ord) {
		t.Helper()
		b := query(kinds, s)
		b.Order = order
		isNone(t, api.ErrBound)(lower.Lower(c, b))
	}
	held()
	held([]api.Ord{}...)
	for column := range 3 {
		for _, d := range []bool{false, true} {
			for count := range api.MaxKeys + 1 {
				held(slices.Repeat([]api.Ord{{Col: column, Desc: d}}, count)...)
			}
			held(api.Ord{Col: column, Desc: d}, api.Ord{Col: 2 - column})
			held(api.Ord{}, api.Ord{Col: column, Desc: d}, api.Ord{Col: 1, Desc: !d})
			refused(slices.Repeat([]api.Ord{{Col: column, Desc: d}}, api.MaxKeys+1)...)
		}
	}
	refused(make([]api.Ord, 1<<16)...)
	for _, column := range []int{-1, 3, 4, 16, math.MaxInt, math.MinInt} {
		refused(api.Ord{Col: column})
		refused(api.Ord{}, api.Ord{Col: 1, Desc: true}, api.Ord{Col: column, Desc: true})
	}
}

// P14.2: limits from none to the greatest one, and such as may not be.
func TestLimits(t *testing.T) {
	c := tables(t, few)
	b := query([]int{api.VInt}, from(1, col(0)))
	for _, limit := range []int{-1, 0, 1, 2, 1 << 20, api.MaxNumber - 1, api.MaxNumber} {
		b.Limit = limit
		isTree(t, tree(sortBy(limit), tree(project(col(0)), scanU())))(lower.Lower(c, b))
		b.Order = []api.Ord{{Desc: true}}
		isTree(t, tree(sortBy(limit, api.Ord{Desc: true}), tree(project(col(0)), scanU())))(lower.Lower(c, b))
		b.Order = nil
	}
	for _, limit := range []int{-2, -3, api.MaxNumber + 1, api.MaxNumber + 2, 1<<32 + 1, math.MaxInt, math.MinInt} {
		b.Limit = limit
		isNone(t, api.ErrBound)(lower.Lower(c, b))
	}
}

// P14.2: as many names and kinds as the tree has columns, one less and one more; whatever the names are.
func TestNamesAndKinds(t *testing.T) {
	c := tables(t, few)
	for count := 1; count <= api.MaxWidth; count++ {
		s := from(0, slices.Repeat([]api.Expr{col(1)}, count)...)
		for names := range api.MaxWidth + 2 {
			for kinds := range api.MaxWidth + 2 {
				if max(names, kinds)-count > 1 && names != kinds {
					continue
				}
				b := api.Bound{Selects: []api.BSelect{s}, Names: slices.Repeat([]string{"n"}, names), Kinds: slices.Repeat([]int{api.VText}, kinds), Limit: -1}
				if names == count && kinds == count {
					isTree(t, tree(sortBy(-1), tree(project(s.Items...), scanT())))(lower.Lower(c, b))
				} else {
					isNone(t, api.ErrBound)(lower.Lower(c, b))
				}
			}
		}
	}
	b := query([]int{api.VInt, api.VText}, from(0, col(0), col(1)))
	for _, names := range [][]string{{"", ""}, {"a", "a"}, {"SELECT", "?"}, {"no name at all, and far too long for one", "\x00\xff"}} {
		b.Names = names
		isTree(t, tree(sortBy(-1), tree(project(col(0), col(1)), scanT())))(lower.Lower(c, b))
	}
}

// P14.2: each kind in the place of each other one, and numbers that are none.
func TestOtherKinds(t *testing.T) {
	c := tables(t, few)
	items := []api.Expr{lit(null), col(0), col(1), col(2)}
	for a, x := range items {
		for b, y := range items {
			s := from(2, x, y)
			for _, wrong := range []int{0, 1, 2, 3, api.VSum, 5, -1, math.MaxInt, math.MinInt, 1<<32 + 1} {
				if wrong == b {
					isTree(t, tree(sortBy(-1), tree(project(x, y), scanV())))(lower.Lower(c, query([]int{a, wrong}, s)))
				} else {
					isNone(t, api.ErrBound)(lower.Lower(c, query([]int{a, wrong}, s)))
					isNone(t, api.ErrBound)(lower.Lower(c, query([]int{wrong, b}, from(2, y, y))))
				}
			}
		}
	}
}

// P14.2: selects of as many columns, each of one kind or null; where the one has null the kind is the other's.
func TestKindsOfUnions(t *testing.T) {
	c := tables(t, few)
	items := []api.Expr{lit(null), col(0), col(1), col(2)}
	for a, x := range items {
		for b, y := range items {
			for d, z := range items {
				selects := []api.BSelect{from(2, x), from(2, y), from(2, z)}
				want := tree(union(), tree(union(), tree(project(x), scanV()), tree(project(y), scanV())), tree(project(z), scanV()))
				kind := max(a, b, d)
				fits := (a == kind || a == 0) && (b == kind || b == 0) && (d == kind || d == 0)
				for k := range 4 {
					if fits && k == kind {
						isTree(t, tree(sortBy(-1), want))(lower.Lower(c, query([]int{k}, selects...)))
					} else {
						isNone(t, api.ErrBound)(lower.Lower(c, query([]int{k}, selects...)))
					}
				}
			}
		}
	}
	for a := 1; a <= api.MaxWidth; a++ {
		for b := 1; b <= api.MaxWidth; b++ {
			if a != b {
				selects := []api.BSelect{from(1, slices.Repeat([]api.Expr{num(1)}, a)...), from(1, slices.Repeat([]api.Expr{num(1)}, b)...)}
				isNone(t, api.ErrBound)(lower.Lower(c, query(slices.Repeat([]int{api.VInt}, a), selects...)))
				isNone(t, api.ErrBound)(lower.Lower(c, query(slices.Repeat([]int{api.VInt}, b), selects...)))
			}
		}
	}
}

// P14.2: what is wrong in the order, the limit, the kinds is not mended by a select that may be alone, nor the other way round.
func TestOneThingWrong(t *testing.T) {
	c := tables(t, few)
	good := query([]int{api.VInt}, from(0, col(0)), from(1, col(0)))
	isTree(t, tree(sortBy(-1), tree(union(), tree(project(col(0)), scanT()), tree(project(col(0)), scanU()))))(lower.Lower(c, good))
	for _, change := range []func(*api.Bound){
		func(b *api.Bound) { b.Names = nil },
		func(b *api.Bound) { b.Names = []string{"", ""} },
		func(b *api.Bound) { b.Kinds = nil },
		func(b *api.Bound) { b.Kinds = []int{api.VText} },
		func(b *api.Bound) { b.Kinds = []int{api.VInt, api.VInt} },
		func(b *api.Bound) { b.Order = []api.Ord{{Col: 1}} },
		func(b *api.Bound) { b.Limit = -2 },
		func(b *api.Bound) { b.Selects[0].Tables = nil },
		func(b *api.Bound) { b.Selects[1].Tables = []int{4} },
		func(b *api.Bound) { b.Selects[0].Items = nil },
		func(b *api.Bound) { b.Selects[1].Items = []api.Expr{col(0), col(0)} },
		func(b *api.Bound) { b.Selects[1].Items = []api.Expr{lit(text("a"))} },
		func(b *api.Bound) { b.Selects[0].Keys = []int{0} },
		func(b *api.Bound) { b.Selects[1].Aggs = []api.Agg{agg(api.AggAll)} },
		func(b *api.Bound) { b.Selects[0].Having = lit(yes) },
		func(b *api.Bound) { b.Selects[1].Where = num(1) },
		func(b *api.Bound) { b.Selects[0].Joins = []api.BJoin{{On: lit(yes)}} },
		func(b *api.Bound) { b.Selects = nil },
		func(b *api.Bound) { b.Selects = slices.Repeat(b.Selects, 2) },
	} {
		b := copyOf(good)
		change(&b)
		isNone(t, api.ErrBound)(lower.Lower(c, b))
	}
}
