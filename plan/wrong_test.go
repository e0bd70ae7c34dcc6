package plan_test

import (
	"math"
	"slices"
	"testing"

	"bowsprit/api"
	"bowsprit/logic"
)

// noTrees are trees that may not be, though some are of nodes that stand in fragments, and some scan tables that there are not.
func noTrees() []api.Logic {
	limited, keyed, cut := scanT(), distinct(), filter(lit(yes))
	limited.Limit, keyed.Keys, cut.Order = 1, []int{0}, []api.Ord{{}}
	two := steps(scanT(), scanU(), join(lit(yes)))
	return []api.Logic{
		{}, {Nodes: []api.LNode{}}, {Nodes: []api.LNode{{}}}, {Nodes: []api.LNode{scanT()}},
		{Nodes: slices.Repeat(steps(scanT()), api.MaxLogic+1)}, {Nodes: slices.Repeat(steps(scanT()), 2)}, {Nodes: make([]api.LNode, 1<<16)},
		{Nodes: with(two, 2, at(two[2], 1, 0))}, {Nodes: with(two, 2, at(two[2], 0, math.MaxInt))}, {Nodes: with(two, 2, at(two[2], math.MinInt, 1))}, {Nodes: two[1:]}, {Nodes: two[:2]},
		tree(scanT(), join(lit(yes))), tree(filter(lit(yes))), tree(scanT(), sortBy(1), distinct()), tree(scanT(), sortBy(-2)), tree(scanT(), sortBy(0, api.Ord{Col: 2})),
		tree(input(0, ki)), tree(scanT(), partial([]int{0})), tree(scanT(), final(2)), tree(input(0, ki), final(1)), tree(scanT(), api.LNode{Op: 12}),
		tree(scan(-1, ki)), tree(scan(api.MaxTables, ki)), tree(scan(0)), tree(scan(0, kn)), tree(scan(0, ks)), tree(scan(0, ki, ki, ki, ki, ki)), tree(scan(9)),
		tree(limited), tree(scanT(), keyed), tree(scanT(), cut),
		tree(scanT(), filter(num(1))), tree(scanT(), filter(eq(0, 2))), tree(scanT(), filter(api.Expr{})), tree(scanT(), project()), tree(scanT(), group(nil)), tree(scanT(), group([]int{2})),
		tree(scanT(), scanU(), union()), tree(scanV(), scanV(), join(lit(yes)), scanV(), scanV(), join(lit(yes)), join(lit(yes)), scanU(), join(lit(yes))),
	}
}

func at(n api.LNode, a, b int) api.LNode {
	n.A, n.B = a, b
	return n
}

// noScans are scans that may be, but not of the chapter's catalog: of other Kinds.
func noScans() []api.LNode {
	return []api.LNode{
		scan(0, ki), scan(0, ki, ki, ki), scan(0, ki, kt), scan(0, kb, ki), scan(0, kt, kt), scan(1, ki, ki), scan(1, kt), scan(1, kb),
		scan(2, ki, ki, ki), scan(2, ki, ki, ki, kb), scan(3, kt, ki, ki, ki),
	}
}

// P19.1: ErrLogic of trees that may not be, ahead of a catalog that may not be and of tables that there are not.
func TestNoTrees(t *testing.T) {
	for _, l := range noTrees() {
		if _, e := logic.Check(l); e != api.ErrLogic {
			t.Error(l, e)
		}
		refuses(t, l, chapters(), api.ErrLogic)
		refuses(t, l, api.Catalog{}, api.ErrLogic)
		for _, c := range noCatalogs() {
			refuses(t, l, c, api.ErrLogic)
		}
	}
	refuses(t, tree(scan(3, ki), sortBy(1), distinct()), api.Catalog{}, api.ErrLogic)
	refuses(t, tree(scan(3, ki), filter(num(1))), cat(tab("t", "a text")), api.ErrLogic)
}

// P19.1: ErrCatalog of catalogs that may not be, ahead of tables that there are not, and of plans that are too long.
func TestNoCatalogs(t *testing.T) {
	for _, c := range noCatalogs() {
		for _, s := range sides() {
			refuses(t, tree(s.tree...), c, api.ErrCatalog)
		}
		for _, n := range noScans() {
			refuses(t, tree(n), c, api.ErrCatalog)
		}
		refuses(t, tree(chain(29)...), c, api.ErrCatalog)
		refuses(t, tree(scan(0, ki, ki)), c, api.ErrCatalog)
	}
}

// P19.1: ErrArg of a table that there is not.
func TestNoTables(t *testing.T) {
	for count := range api.MaxTables + 1 {
		c := api.Catalog{Tables: chapters().Tables[:count]}
		for table, n := range []api.LNode{scanT(), scanU(), scanV(), scanW()} {
			if table < count {
				continue
			}
			for _, l := range []api.Logic{tree(n), tree(n, distinct()), tree(n, n, union()), tree(n, group(nil, agg(api.AggAll))), tree(n, sortBy(1))} {
				refuses(t, l, c, api.ErrArg)
			}
			if count > 0 {
				refuses(t, tree(scanT(), n, join(lit(yes))), c, api.ErrArg)
				refuses(t, tree(n, scanT(), join(lit(yes))), c, api.ErrArg)
			}
		}
	}
	refuses(t, tree(scan(0, ki)), api.Catalog{}, api.ErrArg)
	refuses(t, tree(scan(0, ki)), api.Catalog{Tables: []api.Table{}}, api.ErrArg)
}

// P19.1: ErrArg of other Kinds than those of the table's columns, at each place of a tree; ahead of ErrLong.
func TestOtherKinds(t *testing.T) {
	for _, n := range noScans() {
		refuses(t, tree(n), chapters(), api.ErrArg)
		refuses(t, tree(n, filter(lit(yes)), distinct()), chapters(), api.ErrArg)
		refuses(t, tree(scanT(), n, join(lit(yes))), chapters(), api.ErrArg)
		refuses(t, tree(n, scanT(), join(lit(yes))), chapters(), api.ErrArg)
		refuses(t, tree(scanT(), scanU(), n, join(lit(yes)), join(lit(yes))), chapters(), api.ErrArg)
		l := chain(29)
		l[0] = n
		refuses(t, tree(append(l[:len(l)-1], sortBy(1))...), chapters(), api.ErrArg)
		refuses(t, tree(append(slices.Clone(l[:56]), scanU(), join(lit(yes)), n, join(lit(yes)))...), chapters(), api.ErrArg)
	}
	c := cat(tab("t", "a bool b int c text d int", 2))
	isPlanned(t, tree(scan(0, kb, ki, kt, ki)), c, planOf(gathered(scan(0, kb, ki, kt, ki)), root(input(0, kb, ki, kt, ki))))
	for k := range 4 {
		for kind := kb; kind <= kt; kind++ {
			if kinds := with([]int{kb, ki, kt, ki}, k, kind); !slices.Equal(kinds, []int{kb, ki, kt, ki}) {
				refuses(t, tree(scan(0, kinds...)), c, api.ErrArg)
			}
		}
		refuses(t, tree(scan(0, slices.Delete([]int{kb, ki, kt, ki}, k, k+1)...)), c, api.ErrArg)
	}
}
