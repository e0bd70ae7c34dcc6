package mean_test

import (
	"strings"
	"testing"

	"bowsprit/api"
	"bowsprit/mean"
	"bowsprit/plan"
)

// planned is what layer 19 makes of a tree.
func planned(t *testing.T, c api.Catalog, l api.Layout, nodes ...api.LNode) run {
	t.Helper()
	p, e := plan.Plan(tree(nodes...), c)
	if e != api.OK {
		t.Fatal(nodes, e)
	}
	return run{p, c, l}
}

// P21.1, P21.4: the chapter's examples, however the rows lie.
func TestExamples(t *testing.T) {
	c := cat(tab("t", "a int"))
	for _, l := range []api.Layout{
		layout(base(list("1 / 2 / 3")), base(nil)), layout(base(list("1 / 3")), base(list("2"))), layout(base(list("2")), base(list("3 / 1"))), layout(base(nil), base(list("3 / 2 / 1"))),
	} {
		sum := planned(t, c, l, scan(0, ki), group(nil, agg(api.AggSum, col(0))))
		sum.meansRows(t, "6")
		fault := planned(t, c, l, scan(0, ki), project(bad(0, 2)))
		fault.meansEnds(t, true, false)
		first, _ := mean.Mean(sum.Plan, c, l)
		if !mean.May(first, list("6"), api.OK) || mean.May(first, nil, api.ErrFault) {
			t.Error(first)
		}
		second, _ := mean.Mean(fault.Plan, c, l)
		if mean.May(second, list("6"), api.OK) || !mean.May(second, nil, api.ErrFault) {
			t.Error(second)
		}
	}
}

// layoutsOfU are layouts of 1 part to MaxSites, that have the same rows of u: spread over all parts, over some, and all of them at one of them.
func layoutsOfU(rows string) (l []api.Layout) {
	for nodes := 1; nodes <= api.MaxSites; nodes++ {
		spreads := [][]int{numbers(1, nodes), {nodes, 1}, {1 + nodes/2, 1, 1}}
		for node := range nodes {
			spreads = append(spreads, []int{node + 1})
		}
		for _, spread := range spreads {
			l = append(l, laid(some(), nodes, spread, nil, list(rows)))
		}
	}
	return l
}

// P21.1: rows that are gathered, by one fragment after the other, from all nodes or from one: they come sorted, and as often as they are there.
func TestGathered(t *testing.T) {
	const rows = "5 / 1 / NULL / 3 / 1 / -2 / 3 / 3"
	const sorted = "NULL / -2 / 1 / 1 / 3 / 3 / 3 / 5"
	for _, l := range layoutsOfU(rows) {
		of(l, onAll(api.WayGather, scanU()), root(input(0, ki))).meansRows(t, sorted)
		of(l, onAll(api.WayGather, scanU()), onOne(api.WayGather, input(0, ki)), onOne(api.WayGather, input(1, ki)), root(input(2, ki))).meansRows(t, sorted)
		of(l, onAll(api.WayGather, scanU()), onOne(api.WayGather, input(0, ki), filter(on(api.NGt, col(0), num(1)))), root(input(1, ki))).meansRows(t, "3 / 3 / 3 / 5")
		of(l, onAll(api.WayGather, scanU()), root(input(0, ki), sortBy(3, down(0)))).meansRows(t, "5 / 3 / 3")
		of(l, onAll(api.WayGather, scanU(), filter(on(api.NLt, col(0), num(-5)))), root(input(0, ki))).meansRows(t, "")
	}
}

// P21.1: a fragment whose rows are sorted the other way round: of what comes on the streams only the bag counts, not the order.
func TestSortedAnew(t *testing.T) {
	for _, l := range layoutsOfU("4 / 2 / 9 / 7 / 1") {
		of(l, onAll(api.WayGather, scanU(), sortBy(-1, down(0))), root(input(0, ki))).meansRows(t, "1 / 2 / 4 / 7 / 9")
		of(l, onAll(api.WayGather, scanU()), onOne(api.WayGather, input(0, ki), sortBy(3, down(0))), root(input(1, ki))).meansRows(t, "4 / 7 / 9")
		of(l, onAll(api.WayGather, scanU()), root(input(0, ki), sortBy(-1, down(0)))).meansRows(t, "9 / 7 / 4 / 2 / 1")
	}
}

// P21.1: rows that are shuffled lie with those like them: each kind of row is counted once, from all nodes, and from one.
func TestShuffled(t *testing.T) {
	const rows = "5 / 1 / NULL / 3 / 1 / -2 / 3 / 3 / NULL"
	count := group([]int{0}, agg(api.AggAll))
	for _, l := range layoutsOfU(rows) {
		const counts = "NULL 2 / -2 1 / 1 2 / 3 3 / 5 1"
		of(l, by(onAll(api.WayShuffle, scanU()), 0), onAll(api.WayGather, input(0, ki), count), root(input(1, ki, ki))).meansRows(t, counts)
		of(l, onAll(api.WayGather, scanU()), by(onOne(api.WayShuffle, input(0, ki)), 0), onAll(api.WayGather, input(1, ki), count), root(input(2, ki, ki))).meansRows(t, counts)
		of(l, by(onAll(api.WayShuffle, scanU()), 0, 0), by(onAll(api.WayShuffle, input(0, ki), count), 1), onAll(api.WayGather, input(1, ki, ki)), root(input(2, ki, ki))).meansRows(t, counts)
	}
}

// P21.1: rows that are cast are at each node: counted there, and gathered, they are there as often as there are nodes.
func TestCast(t *testing.T) {
	all := group(nil, agg(api.AggAll), agg(api.AggSum, col(0)))
	for _, l := range layoutsOfU("5 / 1 / NULL / 3 / 1") {
		each := strings.Join(repeated("5 10", len(l.Parts)), " / ")
		of(l, onAll(api.WayCast, scanU()), onAll(api.WayGather, input(0, ki), all), root(input(1, ki, ki))).meansRows(t, each)
		of(l, onAll(api.WayGather, scanU()), onOne(api.WayCast, input(0, ki)), onAll(api.WayGather, input(1, ki), all), root(input(2, ki, ki))).meansRows(t, each)
		of(l, onAll(api.WayCast, scanU()), onAll(api.WayGather, input(0, ki), all), root(input(1, ki, ki), distinct())).meansRows(t, "5 10")
	}
}

func repeated(s string, count int) (l []string) {
	for range count {
		l = append(l, s)
	}
	return l
}

// P21.1: fragments that read several others, at all nodes and at one; scans beside inputs.
func TestSeveralInputs(t *testing.T) {
	small, great := filter(on(api.NLt, col(0), num(3))), filter(on(api.NGe, col(0), num(3)))
	for _, l := range layoutsOfU("1 / 2 / 3 / 4") {
		of(l, onAll(api.WayGather, scanU(), great), onAll(api.WayGather, scanU(), small), root(input(0, ki), input(1, ki), each())).meansRows(t, "3 1 / 3 2 / 4 1 / 4 2")
		of(l, onAll(api.WayGather, scanU(), great), onAll(api.WayGather, scanU(), small), root(input(1, ki), input(0, ki), each())).meansRows(t, "1 3 / 1 4 / 2 3 / 2 4")
		of(l, onAll(api.WayGather, scanU()), onAll(api.WayGather, scanU(), small), onOne(api.WayGather, input(1, ki), great), root(input(0, ki), input(2, ki), union())).meansRows(t, "1 / 2 / 3 / 4")
		of(l, onAll(api.WayCast, scanU(), small), onAll(api.WayGather, scanU(), input(0, ki), each()), root(input(1, ki, ki))).meansRows(t, "1 1 / 1 2 / 2 1 / 2 2 / 3 1 / 3 2 / 4 1 / 4 2")
		of(l, by(onAll(api.WayShuffle, scanU()), 0), by(onAll(api.WayShuffle, scanU(), great), 0), onAll(api.WayGather, input(0, ki), input(1, ki), leftJoin(eq(0, 1))), root(input(2, ki, ki))).meansRows(t, "1 NULL / 2 NULL / 3 3 / 4 4")
		three := root(input(0, ki), input(1, ki), union(), input(2, ki), union())
		of(l, onAll(api.WayGather, scanU()), onAll(api.WayGather, scanU(), small), onAll(api.WayGather, scanU(), great), three).meansRows(t, "1 / 1 / 2 / 2 / 3 / 3 / 4 / 4")
	}
}

// P21.1: partial aggregates of each node, and their end, at one node and by keys at several.
func TestAggregates(t *testing.T) {
	aggs := []api.Agg{agg(api.AggAll), agg(api.AggCount, col(0)), agg(api.AggSum, col(0)), agg(api.AggMin, col(0)), agg(api.AggMax, col(0))}
	tags := []int{api.AggAll, api.AggCount, api.AggSum, api.AggMin, api.AggMax}
	kinds := []int{ki, ki, ks, ki, ki}
	keyed := append([]int{ki}, kinds...)
	for _, l := range layoutsOfU("5 / 1 / NULL / 3 / 1") {
		of(l, onAll(api.WayGather, scanU(), partial(nil, aggs...)), root(input(0, kinds...), final(0, tags...))).meansRows(t, "5 4 10 1 5")
		r := of(l, by(onAll(api.WayShuffle, scanU(), partial([]int{0}, aggs...)), 0), onAll(api.WayGather, input(0, keyed...), final(1, tags...)), root(input(1, ki, ki, ki, ki, ki, ki)))
		r.meansRows(t, "NULL 1 0 NULL NULL NULL / 1 2 2 2 1 1 / 3 1 1 3 3 3 / 5 1 1 5 5 5")
	}
	for nodes := 1; nodes <= api.MaxSites; nodes++ { // of no rows no partial aggregate comes, and of none of these one row
		r := of(bare(some(), nodes), onAll(api.WayGather, scanU(), partial(nil, aggs...)), root(input(0, kinds...), final(0, tags...)))
		r.meansRows(t, "0 0 NULL NULL NULL")
		r.comes(t, 0, nodes, "")
		of(bare(some(), nodes), onAll(api.WayGather, scanU(), group(nil, agg(api.AggAll))), root(input(0, ki))).meansRows(t, strings.Join(repeated("0", nodes), " / "))
	}
}

// P21.1: what is not sound comes to what it comes to: rows that lie at several nodes are counted at each.
func TestUnsound(t *testing.T) {
	count := group([]int{0}, agg(api.AggAll))
	l := ofU("1 / 2", "1 / 1 / 3", "")
	of(l, onAll(api.WayGather, scanU(), count), root(input(0, ki, ki))).meansRows(t, "1 1 / 1 2 / 2 1 / 3 1")
	of(l, onAll(api.WayGather, scanU(), distinct()), root(input(0, ki))).meansRows(t, "1 / 1 / 2 / 3")
	of(l, onAll(api.WayCast, scanU()), onAll(api.WayCast, input(0, ki)), onAll(api.WayGather, input(1, ki), distinct()), root(input(2, ki), count)).meansRows(t, "1 3 / 2 3 / 3 3")
	of(l, onAll(api.WayCast, scanU()), onAll(api.WayCast, input(0, ki)), onAll(api.WayGather, input(1, ki)), root(input(2, ki), count)).meansRows(t, "1 27 / 2 9 / 3 9")
	of(l, onAll(api.WayGather, scanU(), sortBy(1)), root(input(0, ki))).meansRows(t, "1 / 1")
}

// P21.1: tables with Keys, which lie where their scheme says, beside such without.
func TestTablesWithKeys(t *testing.T) {
	u, v, w := list("1 / 1 / 2 / NULL / 5"), list("'a' 1 / 'b' 1 / 'a' NULL / 'a' 1"), list("1 'x' / 3 'a' / NULL 'b'")
	tt := list("1 10 / 1 11 / 2 20 / 3 NULL / NULL 0")
	for nodes := 1; nodes <= api.MaxSites; nodes++ {
		l := laid(some(), nodes, []int{nodes, 1}, tt, u, v, w)
		of(l, onAll(api.WayGather, scanT(), group([]int{0}, agg(api.AggAll))), root(input(0, ki, ki))).meansRows(t, "NULL 1 / 1 2 / 2 1 / 3 1")
		of(l, onAll(api.WayGather, scanV(), distinct()), root(input(0, kt, ki))).meansRows(t, "'a' NULL / 'a' 1 / 'b' 1")
		r := of(l, by(onAll(api.WayShuffle, scanU()), 0), onAll(api.WayGather, scanT(), input(0, ki), join(eq(0, 2))), root(input(1, ki, ki, ki)))
		r.meansRows(t, "1 10 1 / 1 10 1 / 1 11 1 / 1 11 1 / 2 20 2")
		r = of(l, onAll(api.WayCast, scanW()), onAll(api.WayGather, scanV(), input(0, ki, kt), join(eq(0, 3))), root(input(1, kt, ki, ki, kt)))
		r.meansRows(t, "'a' NULL 3 'a' / 'a' 1 3 'a' / 'a' 1 3 'a' / 'b' 1 NULL 'b'")
	}
}

// P21.1: plans of as many fragments as there may be, one behind the other, and all of them under one.
func TestManyFragments(t *testing.T) {
	for _, l := range []api.Layout{ofU("1 / 2 / 2"), ofU("2", "", "1", "", "2", "", "", ""), ofU("", "2 / 1 / 2")} {
		chain := []api.Frag{onAll(api.WayGather, scanU())}
		for len(chain) < api.MaxFrags-1 {
			chain = append(chain, onOne(api.WayGather, input(len(chain)-1, ki)))
		}
		of(l, append(chain, root(input(api.MaxFrags-2, ki)))...).meansRows(t, "1 / 2 / 2")
		shuffles := []api.Frag{by(onAll(api.WayShuffle, scanU()), 0)}
		for len(shuffles) < api.MaxFrags-2 {
			shuffles = append(shuffles, by(onAll(api.WayShuffle, input(len(shuffles)-1, ki)), 0))
		}
		shuffles = append(shuffles, onAll(api.WayGather, input(api.MaxFrags-3, ki)))
		of(l, append(shuffles, root(input(api.MaxFrags-2, ki)))...).meansRows(t, "1 / 2 / 2")
		var wide []api.Frag
		nodes := []api.LNode{input(0, ki)}
		for k := range api.MaxFrags - 1 {
			wide = append(wide, onAll(api.WayGather, scanU()))
			if k > 0 {
				nodes = append(nodes, input(k, ki), union())
			}
		}
		of(l, append(wide, root(append(nodes, group([]int{0}, agg(api.AggAll)))...))...).meansRows(t, "1 29 / 2 58")
	}
}
