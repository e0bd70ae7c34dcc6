package frame_test

import (
	"math"
	"slices"
	"testing"

	"bowsprit/api"
	"bowsprit/prop"
)

// one is a plan of one fragment of such nodes, as they are.
func one(nodes []api.LNode) api.Plan {
	return planOf(api.Frag{Nodes: nodes, At: api.AtAll, Way: api.WayGather})
}

// P23.3: from 1 to MaxFrags fragments.
func TestFragments(t *testing.T) {
	f := onAll(scan(0, ki))
	for count := 1; count <= api.MaxFrags; count++ {
		mayPlan(t, planOf(slices.Repeat([]api.Frag{f}, count)...))
	}
	for _, count := range []int{0, api.MaxFrags + 1, 255, 256, 257, 600} {
		mayNotPlan(t, planOf(slices.Repeat([]api.Frag{f}, count)...))
	}
	mayNotPlan(t, api.Plan{Frags: []api.Frag{}})
}

// P23.3: the first fragment that may not be laid may stand anywhere.
func TestOneWrongFragment(t *testing.T) {
	for place := range api.MaxFrags {
		l := slices.Repeat([]api.Frag{onAll(scan(0, ki))}, api.MaxFrags)
		for _, wrong := range []api.Frag{{}, {At: api.AtAll, Way: api.WayGather}, {Nodes: steps(scan(0, ki)), Way: api.WayGather}, {Nodes: steps(scan(0, ki)), At: api.AtAll}, by([]int{api.MaxWidth}, scan(0, ki)), onAll(scan(0, ki), scan(0, ki))} {
			mayNotPlan(t, planOf(with(l, place, wrong)...))
		}
	}
}

// P23.3: At and Way, each with each.
func TestAtAndWay(t *testing.T) {
	for at := api.AtAll; at <= api.AtOne; at++ {
		for way := api.WayShuffle; way <= api.WayRoot; way++ {
			f := api.Frag{Nodes: steps(scan(0, ki)), At: at, Way: way}
			mayPlan(t, planOf(f))
			for _, n := range outside(api.AtAll, api.AtOne) {
				f.At = n
				mayNotPlan(t, planOf(f))
			}
			for _, n := range outside(api.WayShuffle, api.WayRoot) {
				f.At, f.Way = at, n
				mayNotPlan(t, planOf(f))
			}
		}
	}
}

// P23.3: at most MaxWidth Cols, each from 0 to MaxWidth less 1, of whatever Way, whether the root has such a column or not, any often.
func TestCols(t *testing.T) {
	for way := api.WayShuffle; way <= api.WayRoot; way++ {
		f := api.Frag{Nodes: steps(scan(0, ki)), At: api.AtAll, Way: way}
		for count := range api.MaxWidth + 1 {
			for _, n := range []int{0, 1, api.MaxWidth - 1} {
				f.Cols = slices.Repeat([]int{n}, count)
				mayPlan(t, planOf(f))
			}
		}
		f.Cols = numbers(0, api.MaxWidth-1)
		mayPlan(t, planOf(f))
		slices.Reverse(f.Cols)
		mayPlan(t, planOf(f))
		for _, n := range outside(0, api.MaxWidth-1) {
			f.Cols = []int{n}
			mayNotPlan(t, planOf(f))
			f.Cols = with(numbers(0, api.MaxWidth-1), 9, n)
			mayNotPlan(t, planOf(f))
		}
		for _, count := range []int{api.MaxWidth + 1, 255, 256, 257} {
			f.Cols = make([]int, count)
			mayNotPlan(t, planOf(f))
		}
	}
}

// distincts are a scan under so many nodes, less one.
func distincts(count int) []api.LNode {
	return steps(append([]api.LNode{scan(0, ki)}, slices.Repeat([]api.LNode{distinct()}, count-1)...)...)
}

// P23.3: from 1 to MaxSteps nodes.
func TestNodes(t *testing.T) {
	for count := 1; count <= api.MaxSteps; count++ {
		mayPlan(t, one(distincts(count)))
	}
	for _, count := range []int{api.MaxSteps + 1, 255, 256, 257, 300} {
		mayNotPlan(t, one(distincts(count)))
	}
	mayNotPlan(t, one(nil), one([]api.LNode{}))
	unions := slices.Concat(slices.Repeat([]api.LNode{scan(0, ki)}, 30), slices.Repeat([]api.LNode{union()}, 29))
	mayPlan(t, one(steps(unions...)), planOf(slices.Repeat([]api.Frag{onAll(unions...)}, api.MaxFrags)...))
	mayNotPlan(t, one(steps(append(unions[:29:29], unions...)...)))
}

// noNodes are nodes that may not be, each for another reason.
func noNodes() [][]api.LNode {
	t := scan(0, ki)
	l := [][]api.LNode{
		steps(t, t), steps(t, t, distinct()), steps(distinct()), steps(t, union()), steps(union()), {distinct()}, {t},
		steps(t, filter(num(1))), steps(t, filter(col(1))), steps(t, filter(api.Expr{})), steps(t, join(lit(yes))), steps(t, t, join(lit(text("a")))),
		steps(scan(4, ki)), steps(scan(-1, ki)), steps(scan(256, ki)), steps(scan(0)), steps(scan(0, ki, ki, ki, ki, ki)), steps(scan(0, ks)), steps(scan(0, kn)), steps(scan(0, 258)),
		steps(input(30, ki)), steps(input(-1, ki)), steps(input(256, ki)), steps(input(0)), steps(input(0, slices.Repeat([]int{ki}, 17)...)), steps(input(0, 5)), steps(input(0, -1)), steps(input(0, 256)),
		steps(t, sortBy(-1), distinct()), steps(t, partial([]int{0}), distinct()), steps(t, final(1)), steps(input(0, ks), distinct()), steps(input(0, ki), final(0, api.AggSum)),
		steps(t, sortBy(-2)), steps(t, sortBy(math.MaxInt32+1)), steps(t, sortBy(math.MaxUint32)), steps(t, sortBy(math.MaxUint32-1)), steps(t, sortBy(math.MaxInt)), steps(t, sortBy(math.MinInt)),
		steps(t, sortBy(0, slices.Repeat([]api.Ord{{}}, 4)...)), steps(t, sortBy(0, api.Ord{Col: 1})), steps(t, sortBy(0, api.Ord{Col: -1})), steps(t, sortBy(0, api.Ord{Col: 256})),
		steps(t, group(nil)), steps(t, group([]int{0, 0, 0, 0})), steps(t, group([]int{1})), steps(t, group([]int{-1})), steps(t, group([]int{256})), steps(t, group(nil, slices.Repeat([]api.Agg{agg(1)}, 13)...)),
		steps(t, group(nil, agg(0))), steps(t, group(nil, agg(6, col(0)))), steps(t, group(nil, agg(257))), steps(t, group(nil, agg(-1, col(0)))), steps(t, group(nil, agg(api.AggSum))), steps(t, group(nil, agg(api.AggAll, col(0)))),
		steps(t, project()), steps(t, project(slices.Repeat([]api.Expr{col(0)}, 17)...)), steps(t, project(col(0), col(1))), steps(t, project(api.Expr{})),
		steps(t, project(nots(api.MaxExpr))), steps(t, project(lit(sumOf(0, 1)))), steps(t, project(exprOf(api.ENode{Tag: api.NCountAll, L: -1, R: -1}))),
		slices.Concat(steps(t), steps(distinct())), with(steps(t, distinct()), 1, distinct()),
	}
	for _, op := range outside(api.LScan, api.LFinal) {
		l = append(l, steps(api.LNode{Op: op}), steps(t, api.LNode{Op: op}), []api.LNode{steps(t)[0], {Op: op, B: -1}})
	}
	return l
}

// P23.3: nodes that may not be, as the first fragment, or behind one that may be laid.
func TestNoNodes(t *testing.T) {
	for _, nodes := range noNodes() {
		if _, _, e := prop.Kinds(nodes); e == api.OK {
			t.Errorf("%v may be", nodes)
		}
		mayNotPlan(t, one(nodes), planOf(onAll(scan(0, ki)), one(nodes).Frags[0], onAll(scan(0, ki))))
	}
}

// P23.3: what does not count of a node is zero, or the nodes may not be.
func TestNodesWithMore(t *testing.T) {
	for _, fill := range []func(n *api.LNode){
		func(n *api.LNode) { n.Table = 1 }, func(n *api.LNode) { n.Kinds = []int{ki} }, func(n *api.LNode) { n.Left = true }, func(n *api.LNode) { n.Cond = lit(yes) }, func(n *api.LNode) { n.Keys = []int{0} },
		func(n *api.LNode) { n.Aggs = []api.Agg{{}} }, func(n *api.LNode) { n.Items = []api.Expr{{}} }, func(n *api.LNode) { n.Order = []api.Ord{{}} }, func(n *api.LNode) { n.Limit = -1 }, func(n *api.LNode) { n.A = -1 }, func(n *api.LNode) { n.B = 0 },
	} {
		p := one(steps(scan(0, ki), distinct()))
		fill(&p.Frags[0].Nodes[1])
		mayNotPlan(t, p)
	}
	for _, fill := range []func(n *api.ENode){
		func(n *api.ENode) { n.L = 0 }, func(n *api.ENode) { n.R = 0 }, func(n *api.ENode) { n.Col = 1 }, func(n *api.ENode) { n.Value.U = 1 }, func(n *api.ENode) { n.Value.S = "a" },
	} {
		p := copyOf(one(steps(scan(0, ki), filter(on(api.NNot, lit(yes))))))
		fill(&p.Frags[0].Nodes[1].Cond.Nodes[0])
		mayNotPlan(t, p)
	}
}

// P23.3: plans that may be laid, and may not be as plans: nobody reads a fragment, or one of other kinds, or a later one, or two read it; the last one's rows go on; scans at the coordinator's; columns that there are not.
func TestPlansThatAreNone(t *testing.T) {
	c := api.Catalog{Tables: []api.Table{{Name: "t", Columns: []api.Column{{Name: "a", Kind: ki}}}}}
	for _, p := range []api.Plan{
		planOf(onAll(scan(0, ki))), planOf(onOne(scan(0, ki))), planOf(onOne(input(0, ki))), planOf(onOne(input(29, ks))), planOf(onOne(input(0, ki)), onAll(scan(0, ki))),
		planOf(onAll(scan(0, ki)), onOne(input(0, kt))), planOf(onAll(scan(0, ki)), onOne(input(0, ki), input(0, ki), union())), planOf(onAll(scan(0, ki)), onOne(input(1, ki))),
		planOf(by([]int{7}, scan(0, ki)), onAll(input(0, ki)), onOne(input(1, ki))), planOf(by(nil, scan(0, ki)), onAll(input(0, ki)), onOne(input(1, ki))),
		planOf(onAll(scan(0, ki)), api.Frag{Nodes: steps(input(0, ki)), At: api.AtOne, Way: api.WayRoot, Cols: []int{0}}), planOf(onAll(scan(3, kt)), onOne(input(0, kt))),
		planOf(onAll(scan(0, ki)), onAll(input(0, ki))), planOf(onOne(scan(0, ki), partial(nil, agg(api.AggSum, col(0))))),
	} {
		if _, _, e := prop.Check(p, c); e == api.OK {
			t.Errorf("%v may be", p)
		}
		mayPlan(t, p)
	}
	if _, _, e := prop.Check(small(), c); e != api.OK {
		t.Error(e)
	}
	mayPlan(t, small())
}
