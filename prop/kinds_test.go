package prop_test

import (
	"math"
	"slices"
	"testing"

	"bowsprit/api"
)

// farOff are numbers that are far from all places and kinds.
var farOff = []int{-1, -2, math.MaxInt, math.MinInt, 1 << 32, 1<<32 + 1, 256}

// P18.1: each number that a fragment may have, and each that none has.
func TestInputOfTables(t *testing.T) {
	for n := range api.MaxFrags {
		nodesAre(t, steps(input(n, ki, ks)), []int{ki, ks})
	}
	for _, n := range append(slices.Clone(farOff), api.MaxFrags, api.MaxFrags+1, 1<<32+3) {
		mayNot(t, 0, steps(input(n, ki, ks)))
		mayNot(t, 1, steps(scanT(), input(n, ki, ki), union()))
	}
}

// P18.1: from one column to as many as there may be, each of each kind; and none, one more, and what is no kind at each place.
func TestInputOfKinds(t *testing.T) {
	mayNot(t, 0, steps(input(0)))
	mayNot(t, 0, []api.LNode{{Op: api.LInput, A: -1, B: -1, Kinds: []int{}}})
	for count := 1; count <= api.MaxWidth; count++ {
		for kind := kn; kind <= ks; kind++ {
			all := slices.Repeat([]int{kind}, count)
			nodesAre(t, steps(input(2, all...)), all)
			for place := range count {
				other := with(all, place, (kind+2)%5)
				nodesAre(t, steps(input(2, other...)), other)
				for _, wrong := range append(slices.Clone(farOff), ks+1, ks+2, 1<<32+kind) {
					mayNot(t, 0, steps(input(2, with(all, place, wrong)...)))
				}
			}
		}
	}
	for kind := kn; kind <= ks; kind++ {
		mayNot(t, 0, steps(input(0, slices.Repeat([]int{kind}, api.MaxWidth+1)...)))
		mayNot(t, 0, steps(input(0, slices.Repeat([]int{kind}, 1<<16)...)))
	}
}

// P18.1: a scan is as in trees: of fewer kinds, of fewer columns than an input has.
func TestScan(t *testing.T) {
	for n := range api.MaxTables {
		nodesAre(t, steps(scan(n, kb, ki, kt)), []int{kb, ki, kt})
	}
	for _, n := range append(slices.Clone(farOff), api.MaxTables, api.MaxFrags-1) {
		mayNot(t, 0, steps(scan(n, ki)))
	}
	for count := range 8 {
		all := slices.Repeat([]int{kt}, count)
		if count >= 1 && count <= api.MaxColumns {
			nodesAre(t, steps(scan(0, all...)), all)
		} else {
			mayNot(t, 0, steps(scan(0, all...)))
		}
		for place := range count {
			for _, wrong := range []int{kn, ks, -1, ks + 1} {
				mayNot(t, 0, steps(scan(0, with(all, place, wrong)...)))
			}
		}
	}
}

// eachOp are nodes of fragments of which the root is of each Op; that of a second list is told with the kinds of its columns. They stand over inputs and over scans.
func eachOp() ([][]api.LNode, [][]int) {
	in := input(3, kn, kb, ki, kt)
	return [][]api.LNode{
		steps(scanV()),
		steps(scanT(), in, join(lit(yes))),
		steps(in, in, leftJoin(eq(2, 6))),
		steps(in, filter(on(api.NGt, col(2), num(1)))),
		steps(in, filter(col(0))),
		steps(in, group([]int{3, 0}, agg(api.AggAll), agg(api.AggSum, col(2)), agg(api.AggSum, col(0)), agg(api.AggMax, col(1)))),
		steps(in, project(col(3), lit(null), on(api.NAdd, col(2), col(0)), col(0))),
		steps(in, distinct()),
		steps(in, input(4, ki, kn, ki, kn), union()),
		steps(in, sortBy(7, api.Ord{Col: 3, Desc: true}, api.Ord{Col: 0})),
		steps(input(3, ks, kn)),
		steps(in, partial([]int{3, 0}, agg(api.AggAll), agg(api.AggSum, col(2)), agg(api.AggSum, col(0)), agg(api.AggMax, col(1)))),
		steps(input(3, kt, ki, ks, kb), final(1, api.AggCount, api.AggSum, api.AggMin)),
	}, [][]int{
		{kb, ki, kt, ki}, {ki, ki, kn, kb, ki, kt}, {kn, kb, ki, kt, kn, kb, ki, kt}, {kn, kb, ki, kt}, {kn, kb, ki, kt}, {kt, kn, ki, ki, ki, kb},
		{kt, kn, ki, kn}, {kn, kb, ki, kt}, {ki, kb, ki, kt}, {kn, kb, ki, kt}, {ks, kn}, {kt, kn, ki, ks, ks, kb}, {kt, ki, ki, kb},
	}
}

// P18.1: each Op, with the kinds of its columns.
func TestEachOp(t *testing.T) {
	lists, kinds := eachOp()
	for k, l := range lists {
		mayBe(t, l, kinds[k]...)
	}
	nodesAre(t, lists[8], []int{kn, kb, ki, kt}, []int{ki, kn, ki, kn}, []int{ki, kb, ki, kt})
	nodesAre(t, lists[11], []int{kn, kb, ki, kt}, []int{kt, kn, ki, ks, ks, kb})
}

// P18.1: what a node of a tree asks it asks over inputs, too.
func TestAsksAsInTrees(t *testing.T) {
	in := input(0, kn, kb, ki, kt)
	for _, n := range []api.LNode{
		filter(col(2)), filter(col(3)), filter(col(4)), filter(lit(number(1))), filter(api.Expr{}), filter(eq(2, 3)),
		group(nil), group([]int{4}), group([]int{-1}), group([]int{0, 1, 2, 3}), group(nil, make([]api.Agg, 13)...), group(nil, agg(0)), group(nil, agg(6)), group(nil, agg(api.AggSum, col(1))), group(nil, agg(api.AggSum, col(3))), group(nil, agg(api.AggAll, col(1))), group(nil, agg(api.AggMin)), group(nil, agg(api.AggCount, col(4))),
		project(), project(col(4)), project(col(0), eq(2, 3)), project(slices.Repeat([]api.Expr{col(0)}, 17)...), project(api.Expr{}),
		sortBy(-2), sortBy(api.MaxNumber + 1), sortBy(-1, api.Ord{Col: 4}), sortBy(-1, api.Ord{Col: -1}), sortBy(-1, make([]api.Ord, 4)...),
	} {
		mayNot(t, 1, steps(in, n))
		mayNot(t, 2, steps(scanT(), in, n, join(lit(yes))))
	}
	for _, n := range []api.LNode{join(col(2)), join(eq(2, 8)), leftJoin(api.Expr{}), join(lit(text("a")))} {
		mayNot(t, 2, steps(in, in, n))
	}
	for _, kinds := range [][]int{{kn, kb, ki}, {kn, kb, ki, kt, kn}, {kn, ki, ki, kt}, {kn, kb, kt, kt}, {kn, kb, ki, kb}} {
		mayNot(t, 2, steps(in, input(1, kinds...), union()))
	}
	mayBe(t, steps(in, input(1, kt, kn, ki, kn), union()), kt, kb, ki, kt)
	for a := 1; a <= api.MaxWidth; a++ {
		for b := 1; b <= api.MaxWidth; b++ {
			l := steps(input(0, slices.Repeat([]int{kn}, a)...), input(1, slices.Repeat([]int{kt}, b)...), join(on(api.NIsNull, col(a+b-1))))
			if a+b <= api.MaxWidth {
				mayBe(t, l, slices.Concat(slices.Repeat([]int{kn}, a), slices.Repeat([]int{kt}, b))...)
			} else {
				mayNot(t, 2, l)
			}
		}
	}
}

// P18.1: an LPartial asks what an LGroup asks, and is of the same kinds, but for sums.
func TestPartial(t *testing.T) {
	in := input(0, kn, kb, ki, kt)
	for tag := -2; tag < 10; tag++ {
		for column := kn; column <= kt; column++ {
			for _, arg := range []api.Expr{col(column), lit(valueOf[column])} {
				l := steps(in, partial([]int{column}, agg(api.AggAll), agg(tag, arg)))
				switch {
				case tag == api.AggCount:
					mayBe(t, l, column, ki, ki)
				case tag == api.AggSum && (column == ki || column == kn):
					mayBe(t, l, column, ki, ks)
				case tag == api.AggMin || tag == api.AggMax:
					mayBe(t, l, column, ki, column)
				default:
					mayNot(t, 1, l)
				}
			}
		}
		if tag == api.AggAll {
			mayBe(t, steps(in, partial(nil, agg(tag), agg(tag))), ki, ki)
		} else {
			mayNot(t, 1, steps(in, partial(nil, agg(tag), agg(tag))))
		}
		for _, x := range append(noExprs()[1:], col(4), eq(2, 3)) {
			mayNot(t, 1, steps(in, partial(nil, agg(tag, x))))
		}
	}
	for keys := range api.MaxNames + 2 {
		for aggs := range api.MaxAggs + 2 {
			l := steps(in, partial(slices.Repeat([]int{3}, keys), slices.Repeat([]api.Agg{agg(api.AggSum, col(2))}, aggs)...))
			if keys <= api.MaxNames && aggs <= api.MaxAggs && keys+aggs > 0 {
				mayBe(t, l, slices.Concat(slices.Repeat([]int{kt}, keys), slices.Repeat([]int{ks}, aggs))...)
			} else {
				mayNot(t, 1, l)
			}
		}
	}
	for _, k := range append(slices.Clone(farOff), 4) {
		mayNot(t, 1, steps(in, partial([]int{0, k}, agg(api.AggAll))))
	}
	mayBe(t, steps(in, partial([]int{3, 1, 3}, agg(api.AggSum, on(api.NAdd, col(2), num(1))), agg(api.AggMin, col(2)), agg(api.AggSum, col(0)))), kt, kb, kt, ks, ki, ks)
}

// P18.1: an LFinal over each kind, by each Tag, and by a key.
func TestFinalOfKinds(t *testing.T) {
	for kind := kn; kind <= ks; kind++ {
		for tag := -2; tag < 10; tag++ {
			l, m := steps(input(0, kind), final(0, tag)), steps(input(0, kt, ki, kind, ks), final(1, api.AggAll, tag, api.AggSum))
			switch {
			case (tag == api.AggAll || tag == api.AggCount) && kind == ki, tag == api.AggSum && kind == ks:
				mayBe(t, l, ki)
				mayBe(t, m, kt, ki, ki, ki)
			case (tag == api.AggMin || tag == api.AggMax) && kind != ks:
				mayBe(t, l, kind)
				mayBe(t, m, kt, ki, kind, ki)
			default:
				mayNot(t, 1, l)
				mayNot(t, 1, m)
			}
		}
		for _, tag := range []int{math.MaxInt, math.MinInt, 1<<32 + api.AggMin, 256 + api.AggMin} {
			mayNot(t, 1, steps(input(0, kind), final(0, tag)))
		}
		for place := range api.MaxNames {
			kinds := with([]int{kn, kb, kt}, place, kind)
			if l := steps(input(0, kinds...), final(3)); kind == ks {
				mayNot(t, 1, l)
			} else {
				mayBe(t, l, kinds...)
			}
		}
	}
}

// P18.1: keys and aggregates together are as many as there are columns; of each at most as many as there may be.
func TestFinalOfCounts(t *testing.T) {
	for keys := range api.MaxNames + 3 {
		for aggs := range api.MaxAggs + 3 {
			n := final(keys, slices.Repeat([]int{api.AggMax}, aggs)...)
			for width := 1; width <= api.MaxWidth; width++ {
				kinds := slices.Repeat([]int{kb}, width)
				if l := steps(input(0, kinds...), n); keys <= api.MaxNames && aggs <= api.MaxAggs && keys+aggs == width {
					mayBe(t, l, kinds...)
				} else {
					mayNot(t, 1, l)
				}
			}
		}
	}
	mayNot(t, 1, steps(input(0, ki), api.LNode{Op: api.LFinal, Keys: []int{}, Aggs: []api.Agg{}}))
	mayNot(t, 1, steps(input(0, ki), final(1<<16)))
	mayNot(t, 1, steps(input(0, ki), final(0, slices.Repeat([]int{api.AggMax}, 1<<16)...)))
}

// P18.1: the keys of an LFinal are 0, 1, and so on, in that order.
func TestFinalOfKeys(t *testing.T) {
	for a := -1; a < 4; a++ {
		for b := -1; b < 4; b++ {
			for c := -1; c < 4; c++ {
				n := final(0, api.AggMin)
				n.Keys = []int{a, b, c}
				if l := steps(input(0, kb, kb, kb, kb), n); a == 0 && b == 1 && c == 2 {
					mayBe(t, l, kb, kb, kb, kb)
				} else {
					mayNot(t, 1, l)
				}
			}
		}
		n := final(0, api.AggMin, api.AggMin)
		if n.Keys = []int{a}; a != 0 {
			mayNot(t, 1, steps(input(0, kb, kb, kb), n))
		}
	}
	for _, k := range farOff {
		n := final(0)
		n.Keys = []int{k}
		mayNot(t, 1, steps(input(0, kb), n))
	}
}

// P18.1: the aggregates of an LFinal are Tags, whatever stands as their Arg.
func TestFinalOfArgs(t *testing.T) {
	for tag, kind := range map[int]int{api.AggAll: ki, api.AggCount: ki, api.AggSum: ks, api.AggMin: ki, api.AggMax: kt} {
		for _, x := range append(noExprs()[1:], col(0), num(1), col(1)) {
			n := final(1, tag)
			n.Aggs[0].Arg = x
			mayNot(t, 1, steps(input(0, ki, kind), n))
		}
		n := final(1, tag)
		n.Aggs[0].Arg.Nodes = []api.ENode{}
		mayBe(t, steps(input(0, ki, kind), n), ki, map[bool]int{true: ki, false: kind}[kind == ks])
	}
}

// P18.1: an LFinal stands over an LInput, and over nothing else; it may stand below whatever there is.
func TestFinalOverInput(t *testing.T) {
	end := final(1, api.AggMin)
	for _, l := range [][]api.LNode{
		{scanT()}, {scanT(), distinct()}, {scanT(), filter(lit(yes))}, {scanT(), picked(0, 1)}, {scanT(), group([]int{0, 1})}, {scanU(), scanU(), join(lit(yes))}, {scanT(), scanT(), union()},
		{input(0, ki, ki), distinct()}, {input(0, ki, ki), end}, {input(0, ki, ki), input(1, ki, ki), union()},
	} {
		mayNot(t, len(l), steps(append(l, end)...))
		mayNot(t, len(l)+1, steps(append([]api.LNode{scanT()}, append(l, end, union())...)...))
	}
	mayNot(t, 1, steps(scanT(), partial([]int{0}, agg(api.AggAll)), final(1, api.AggAll))) // that partial is no root
	mayNot(t, 1, steps(scanT(), sortBy(-1), end))
	mayNot(t, 0, steps(end))
	sums := []api.LNode{input(0, kt, ks), final(1, api.AggSum)}
	for _, n := range []api.LNode{distinct(), filter(on(api.NGt, col(1), num(0))), picked(1, 0), group([]int{0}), partial([]int{0}, agg(api.AggSum, col(1))), sortBy(3, api.Ord{Col: 1})} {
		l := steps(append(slices.Clone(sums), n)...)
		mayBe(t, l, lastOf(must(kindsByRule(l)))...)
	}
	mayBe(t, steps(append(append(slices.Clone(sums), sums...), join(eq(1, 3)))...), kt, ki, kt, ki)
	mayBe(t, steps(append(append(slices.Clone(sums), sums...), union())...), kt, ki)
}

// must are kinds that there have to be.
func must(kinds [][]int, place int, ok bool) [][]int {
	if !ok {
		panic(place)
	}
	return kinds
}

// P18.1: above what has a column of VSum, at whichever place, there is an LFinal, or nothing: told at the node that stands above.
func TestAboveSums(t *testing.T) {
	for place := range 3 {
		kinds := with([]int{ki, ki, ki}, place, ks)
		in, other := input(5, kinds...), input(6, ki, ki, ki)
		mayBe(t, steps(in), kinds...)
		for _, n := range []api.LNode{
			distinct(), filter(lit(yes)), project(lit(null)), picked((place + 1) % 3), picked(place), group(nil, agg(api.AggAll)), group([]int{(place + 1) % 3}), group(nil, agg(api.AggSum, col(place))),
			partial(nil, agg(api.AggAll)), partial(nil, agg(api.AggSum, col(place))), sortBy(-1), sortBy(3, api.Ord{Col: (place + 1) % 3}),
		} {
			mayNot(t, 1, steps(in, n))
			mayNot(t, 2, steps(scanU(), in, n, join(lit(yes))))
		}
		for _, n := range []api.LNode{join(lit(yes)), leftJoin(lit(yes)), union()} {
			mayNot(t, 2, steps(in, other, n))
			mayNot(t, 2, steps(other, in, n))
			mayNot(t, 2, steps(in, in, n))
			mayNot(t, 2, steps(in, in, n, distinct()))
		}
		mayBe(t, steps(in, final(0, with([]int{api.AggMin, api.AggAll, api.AggMax}, place, api.AggSum)...)), ki, ki, ki)
		mayNot(t, 1, steps(in, final(0, api.AggMin, api.AggMin, api.AggMin)))
	}
	mayNot(t, 2, steps(input(0, ks), input(0, ks), union()))
}

// P18.1: an LSort, an LPartial is the root, and stands nowhere below it: told at its own place.
func TestRootAlone(t *testing.T) {
	for _, n := range []api.LNode{sortBy(-1), sortBy(2, api.Ord{Col: 1}), partial([]int{0}, agg(api.AggMin, col(1))), partial([]int{0}, agg(api.AggSum, col(1)))} {
		for _, below := range [][]api.LNode{{scanT()}, {input(2, ki, ki)}, {scanU(), scanU(), join(lit(yes))}} {
			own := len(below)
			l := steps(append(slices.Clone(below), n)...)
			mayBe(t, l, lastOf(must(kindsByRule(l)))...)
			for _, above := range []api.LNode{distinct(), filter(lit(yes)), project(num(1)), group(nil, agg(api.AggAll)), n, sortBy(-1), partial(nil, agg(api.AggAll)), final(1, api.AggMin), final(1, api.AggSum)} {
				mayNot(t, own, steps(append(slices.Clone(below), n, above)...))
			}
			for _, above := range []api.LNode{union(), join(lit(yes))} {
				mayNot(t, own, steps(append(slices.Clone(below), n, scanT(), above)...))
				mayNot(t, own+1, steps(append(append([]api.LNode{scanT()}, below...), n, above)...))
			}
			mayNot(t, own, steps(append(slices.Clone(below), n, scanT())...))
		}
	}
}

// P18.1: what is no operator, with whatever parts.
func TestNoOperators(t *testing.T) {
	for _, op := range append(slices.Clone(farOff), 0, api.LFinal+1, 13, 256+api.LDistinct, 1<<32+api.LInput) {
		n := api.LNode{Op: op}
		mayNot(t, 0, steps(n))
		mayNot(t, 0, []api.LNode{n})
		mayNot(t, 1, append(steps(scanT()), at(n, 0, -1)))
		mayNot(t, 2, append(steps(scanT(), scanT()), at(n, 0, 1)))
		mayNot(t, 0, append([]api.LNode{at(n, -1, -1)}, scanT()))
		n.Kinds = []int{ki}
		mayNot(t, 0, []api.LNode{at(n, -1, -1)})
	}
}

// P18.1: what does not count is zero, of each operator, each field alone; lists that are there, and empty, are as none.
func TestWhatDoesNotCount(t *testing.T) {
	fields := []struct {
		name string
		fill func(n *api.LNode)
	}{
		{"Table", func(n *api.LNode) { n.Table = 1 }},
		{"Table", func(n *api.LNode) { n.Table = -1 }},
		{"Kinds", func(n *api.LNode) { n.Kinds = []int{ki} }},
		{"Kinds", func(n *api.LNode) { n.Kinds = []int{kt, ki, ki, kb} }},
		{"Left", func(n *api.LNode) { n.Left = true }},
		{"Cond", func(n *api.LNode) { n.Cond = lit(yes) }},
		{"Keys", func(n *api.LNode) { n.Keys = []int{0} }},
		{"Aggs", func(n *api.LNode) { n.Aggs = []api.Agg{{}} }},
		{"Aggs", func(n *api.LNode) { n.Aggs = []api.Agg{agg(api.AggAll)} }},
		{"Items", func(n *api.LNode) { n.Items = []api.Expr{{}} }},
		{"Items", func(n *api.LNode) { n.Items = []api.Expr{col(0)} }},
		{"Order", func(n *api.LNode) { n.Order = []api.Ord{{}} }},
		{"Limit", func(n *api.LNode) { n.Limit = -1 }},
		{"Limit", func(n *api.LNode) { n.Limit = 1 }},
	}
	counts := map[int][]string{
		api.LScan: {"Table", "Kinds"}, api.LJoin: {"Left", "Cond"}, api.LFilter: {"Cond"}, api.LGroup: {"Keys", "Aggs"}, api.LProject: {"Items"}, api.LSort: {"Order", "Limit"},
		api.LInput: {"Table", "Kinds"}, api.LPartial: {"Keys", "Aggs"}, api.LFinal: {"Keys", "Aggs"},
	}
	lists, kinds := eachOp()
	for k, l := range lists {
		root := len(l) - 1
		for _, f := range fields {
			if m := slices.Clone(l); !slices.Contains(counts[m[root].Op], f.name) {
				f.fill(&m[root])
				mayNot(t, root, m)
			}
		}
		mayBe(t, emptied(l), kinds[k]...)
	}
}

// emptied has lists of no length where it had none.
func emptied(l []api.LNode) []api.LNode {
	l = slices.Clone(l)
	for k := range l {
		n := &l[k]
		n.Kinds = append([]int{}, n.Kinds...)
		n.Cond.Nodes = append([]api.ENode{}, n.Cond.Nodes...)
		n.Keys = append([]int{}, n.Keys...)
		n.Aggs = append([]api.Agg{}, n.Aggs...)
		n.Items = append([]api.Expr{}, n.Items...)
		n.Order = append([]api.Ord{}, n.Order...)
	}
	return l
}
