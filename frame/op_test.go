package frame_test

import (
	"math"
	"slices"
	"testing"

	"bowsprit/api"
)

// mayBeNodes holds that nodes may be laid, in a plan of one fragment, and of several.
func mayBeNodes(t *testing.T, l ...api.LNode) {
	t.Helper()
	p := one(steps(l...))
	mayPlan(t, p, planOf(p.Frags[0], onAll(scan(1, kt)), p.Frags[0]))
}

// P23.3: leaves of each Table, with from one to as many Kinds as there may be, each at each place.
func TestLeaves(t *testing.T) {
	for table := range api.MaxTables {
		for count := 1; count <= api.MaxColumns; count++ {
			for _, kind := range []int{kb, ki, kt} {
				mayBeNodes(t, scan(table, slices.Repeat([]int{kind}, count)...))
			}
		}
	}
	mayBeNodes(t, scan(2, kt, kb, ki, kt))
	for frag := range api.MaxFrags {
		mayBeNodes(t, input(frag, numbers(kn, ks)...))
	}
	for count := 1; count <= api.MaxWidth; count++ {
		for kind := kn; kind <= ks; kind++ {
			mayBeNodes(t, input(count, slices.Repeat([]int{kind}, count)...))
		}
	}
}

// P23.3: joins of the one kind and the other, with a condition that is null, a truth, as long as there may be.
func TestJoins(t *testing.T) {
	for _, cond := range []api.Expr{lit(yes), lit(null), col(0), eq(1, 2), nots(api.MaxExpr - 1)} {
		mayBeNodes(t, scan(0, kb, ki), scan(1, ki), join(cond))
		mayBeNodes(t, scan(0, kb, ki), scan(1, ki), leftJoin(cond))
		mayBeNodes(t, scan(0, kb, ki), filter(col(0)), scan(1, ki), distinct(), leftJoin(cond))
	}
	wide := project(slices.Repeat([]api.Expr{col(0)}, api.MaxWidth/2)...)
	mayBeNodes(t, scan(0, ki), wide, scan(1, ki), wide, join(eq(0, api.MaxWidth-1)))
}

// aggs are so many aggregates over a column of VInt, of each Tag in turn.
func aggs(count int) (l []api.Agg) {
	for k := range count {
		if tag := 1 + k%api.AggMax; tag == api.AggAll {
			l = append(l, agg(tag))
		} else {
			l = append(l, agg(tag, []api.Expr{col(0), num(int64(k)), on(api.NAdd, col(0), num(1)), lit(null)}[k%4]))
		}
	}
	return l
}

// P23.3: groups, whole and partial, with from no Keys to as many as there may be, so of Aggs; and all ends of them.
func TestGroups(t *testing.T) {
	for _, keys := range [][]int{nil, {0}, {1, 0}, {1, 1, 1}} {
		for count := range api.MaxAggs + 1 {
			if len(keys)+count == 0 {
				continue
			}
			mayBeNodes(t, scan(0, ki, kt), group(keys, aggs(count)...))
			mayBeNodes(t, scan(0, ki, kt), partial(keys, aggs(count)...))
			kinds := slices.Repeat([]int{kt}, len(keys))
			var tags []int
			for _, a := range aggs(count) {
				tags = append(tags, a.Tag)
				kinds = append(kinds, map[int]int{api.AggSum: ks, api.AggMin: kn, api.AggMax: kb}[a.Tag])
				if a.Tag <= api.AggCount {
					kinds[len(kinds)-1] = ki
				}
			}
			mayBeNodes(t, input(3, kinds...), final(len(keys), tags...))
			mayBeNodes(t, input(3, kinds...), final(len(keys), tags...), distinct())
		}
	}
	long := on(api.NAdd, num(math.MaxInt64), num(math.MinInt64))
	for len(long.Nodes) < api.MaxExpr-1 {
		long = on(api.NSub, long, col(0))
	}
	long = on(api.NNeg, long)
	mayBeNodes(t, scan(0, ki), group([]int{0}, slices.Repeat([]api.Agg{agg(api.AggSum, long)}, api.MaxAggs)...))
}

// P23.3: projections of one item, and as many as there may be.
func TestProjections(t *testing.T) {
	for count := 1; count <= api.MaxWidth; count++ {
		mayBeNodes(t, scan(0, ki, kt), project(slices.Repeat([]api.Expr{col(1)}, count)...))
		mayBeNodes(t, scan(0, ki, kt), project(slices.Repeat([]api.Expr{lit(text("")), eq(0, 0)}, api.MaxWidth/2)[:count]...))
	}
	mayBeNodes(t, scan(0, ki), project(slices.Repeat([]api.Expr{nots(api.MaxExpr - 1)}, api.MaxWidth)...), filter(col(api.MaxWidth-1)))
}

// P23.3: sorts by nothing, and as many columns as there may be; the Limit -1, 0, and on to the greatest one.
func TestSorts(t *testing.T) {
	orders := [][]api.Ord{nil, {{}}, {{Desc: true}}, {{Col: 1}, {Desc: true}}, {{Col: 1, Desc: true}, {Col: 1}, {Col: 0, Desc: true}}}
	for _, order := range orders {
		for _, limit := range []int{-1, 0, 1, 254, 255, 256, 65535, 1 << 24, 0x01020304, math.MaxInt32 - 1, math.MaxInt32} {
			mayBeNodes(t, scan(0, ki, kt), sortBy(limit, order...))
		}
	}
	wide := project(slices.Repeat([]api.Expr{col(0)}, api.MaxWidth)...)
	mayBeNodes(t, scan(0, ki), wide, sortBy(3, api.Ord{Col: api.MaxWidth - 1, Desc: true}))
}

// P23.3: what has nothing besides its Op, over whatever there is.
func TestDistinctsAndUnions(t *testing.T) {
	for _, below := range [][]api.LNode{{scan(0, ki)}, {scan(0, ki), distinct()}, {scan(0, ki), scan(1, ki), union()}, {input(0, ki)}, {input(1, ks, kt), final(0, api.AggSum, api.AggMin), project(col(0))}} {
		mayBeNodes(t, append(below[:len(below):len(below)], distinct())...)
		mayBeNodes(t, slices.Concat(below, below, []api.LNode{union()})...)
		mayBeNodes(t, slices.Concat(below, below, []api.LNode{union()}, below, []api.LNode{distinct(), union(), distinct()})...)
		mayBeNodes(t, slices.Concat(below, below, below, []api.LNode{union(), union()})...)
	}
}
