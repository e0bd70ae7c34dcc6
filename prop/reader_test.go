package prop_test

import (
	"math"
	"slices"
	"testing"

	"bowsprit/api"
	"bowsprit/prop"
)

// isRead holds what Reader says of a number.
func isRead(t *testing.T, p api.Plan, number, frag, place int, ok bool) {
	t.Helper()
	if f, k, got := prop.Reader(p, number); f != frag || k != place || got != ok {
		t.Errorf("%v of %v: %v, %v, %v, not %v, %v, %v", number, p, f, k, got, frag, place, ok)
	}
}

// P18.5: numbers that one reads, and that none reads.
func TestReader(t *testing.T) {
	for _, p := range plans() {
		for number := -2; number < api.MaxFrags+2; number++ {
			readers := readersByRule(p, number)
			if len(readers) == 0 {
				isRead(t, p, number, 0, 0, false)
			} else {
				isRead(t, p, number, readers[0].frag, readers[0].place, true)
			}
		}
		for _, number := range nowhere(len(p.Frags)) {
			isRead(t, p, number, 0, 0, false)
		}
	}
	p := plan(onAll(api.WayGather, scanT()), onAll(api.WayCast, scanU()), onAll(api.WayGather, scanT(), input(1, ki), join(lit(yes))), onOne(api.WayRoot, input(2, ki, ki, ki), picked(0, 1), input(0, ki, ki), union()))
	isRead(t, p, 0, 3, 2, true)
	isRead(t, p, 1, 2, 1, true)
	isRead(t, p, 2, 3, 0, true)
	isRead(t, p, 3, 0, 0, false)
	isRead(t, plan(), 0, 0, 0, false)
	isRead(t, plan(), -1, 0, 0, false)
}

// P18.5: numbers that several read: the first fragment, and its first LInput; also of plans that may not be, of numbers that no fragment has.
func TestReaderOfSeveral(t *testing.T) {
	for _, number := range []int{0, 1, 2, 7, 30, 99, -1, -2, math.MaxInt, math.MinInt, 1 << 32} {
		in, other := input(number, ki), input(5, ki)
		isRead(t, plan(onOne(0, in)), number, 0, 0, true)
		isRead(t, plan(onOne(0, in, in, union()), onOne(0, in)), number, 0, 0, true)
		isRead(t, plan(onOne(0, other), onOne(0, other, scanU(), in, in), onOne(0, in)), number, 1, 2, true)
		isRead(t, plan(api.Frag{}, api.Frag{}, onOne(0, other, in), onOne(0, in)), number, 2, 1, true)
		isRead(t, plan(onOne(0, other), api.Frag{}), number, 0, 0, false)
		scans := scan(number, ki)
		isRead(t, plan(onOne(0, scans), onAll(0, scans, scans)), number, 0, 0, false) // a scan's Table is a table
		isRead(t, plan(onOne(0, scans, scans), onAll(0, scans, in)), number, 1, 1, true)
		for _, op := range []int{0, api.LUnion, api.LPartial, api.LFinal, 256 + api.LInput, 1<<32 + api.LInput, -api.LInput} {
			n := in
			n.Op = op
			isRead(t, plan(api.Frag{Nodes: []api.LNode{n}}), number, 0, 0, false)
		}
		long := api.Frag{Nodes: append(make([]api.LNode, 1<<16), in)}
		isRead(t, plan(append(make([]api.Frag, 1<<10), long)...), number, 1<<10, 1<<16, true)
		isRead(t, plan(append(make([]api.Frag, 1<<10), onOne(0, other))...), number, 0, 0, false)
	}
}

// columns holds what Columns says.
func columns(t *testing.T, p api.Plan, want api.Errno, kinds ...int) {
	t.Helper()
	if got, e := prop.Columns(p); e != want || !slices.Equal(got, kinds) {
		t.Errorf("%v: %v, %v, not %v, %v", p, got, e, kinds, want)
	}
}

// P18.5: the kinds of the last fragment's root's columns, whatever the other fragments are; ErrPlan of none, and what Kinds says of its nodes.
func TestColumns(t *testing.T) {
	columns(t, plan(), api.ErrPlan)
	columns(t, api.Plan{Frags: []api.Frag{}}, api.ErrPlan)
	for _, p := range plans() {
		kinds := lastOf(must(kindsByRule(lastOf(p.Frags).Nodes)))
		columns(t, p, api.OK, kinds...)
		columns(t, plan(append(slices.Clone(p.Frags), p.Frags[0])...), api.OK, lastOf(must(kindsByRule(p.Frags[0].Nodes)))...)
		columns(t, plan(append(slices.Clone(p.Frags), api.Frag{At: api.AtOne, Way: api.WayRoot})...), api.ErrFrag)
	}
	lists, kinds := eachOp()
	for k, l := range lists {
		columns(t, plan(api.Frag{Nodes: l}), api.OK, kinds[k]...)
		columns(t, plan(append(make([]api.Frag, api.MaxFrags+7), api.Frag{Nodes: l, At: -1, Way: 9, Cols: []int{77}})...), api.OK, kinds[k]...)
		wrong := slices.Clone(l)
		wrong[0].Limit = 1
		columns(t, plan(api.Frag{Nodes: l}, api.Frag{Nodes: wrong}), api.ErrFrag)
		columns(t, plan(api.Frag{Nodes: wrong}, api.Frag{Nodes: l}), api.OK, kinds[k]...)
	}
	columns(t, plan(api.Frag{Nodes: make([]api.LNode, api.MaxSteps+1)}), api.ErrFrag)
	columns(t, plan(onOne(api.WayRoot, input(0, ks, kn))), api.OK, ks, kn)
}

// stuffed has something in each field; it may not be, and is held against others all the same.
func stuffed() api.LNode {
	return api.LNode{
		Op: api.LJoin, A: 0, B: 1, Table: 2, Kinds: []int{ki, kt}, Left: true, Cond: on(api.NEq, col(0), num(1)), Keys: []int{0, 1},
		Aggs: []api.Agg{agg(api.AggAll), agg(api.AggMin, col(0))}, Items: []api.Expr{num(5), col(1)}, Order: []api.Ord{{Col: 1, Desc: true}, {Col: 0}}, Limit: 7,
	}
}

// others are nodes that differ from stuffed in one field each.
func others() []api.LNode {
	changes := []func(*api.LNode){
		func(n *api.LNode) { n.Op++ }, func(n *api.LNode) { n.A++ }, func(n *api.LNode) { n.B-- }, func(n *api.LNode) { n.Table++ },
		func(n *api.LNode) { n.Kinds = append(n.Kinds, ki) }, func(n *api.LNode) { n.Kinds[0]++ }, func(n *api.LNode) { n.Kinds = n.Kinds[1:] }, func(n *api.LNode) { n.Kinds = nil },
		func(n *api.LNode) { n.Left = false }, func(n *api.LNode) { n.Cond = lit(yes) }, func(n *api.LNode) { n.Cond = api.Expr{} },
		func(n *api.LNode) { n.Cond.Nodes[0].Tag++ }, func(n *api.LNode) { n.Cond.Nodes[0].Col++ }, func(n *api.LNode) { n.Cond.Nodes[2].L = -1 }, func(n *api.LNode) { n.Cond.Nodes[2].R = 0 }, func(n *api.LNode) { n.Cond.Nodes[1].Value.N++ },
		func(n *api.LNode) { n.Keys = append(n.Keys, 1) }, func(n *api.LNode) { n.Keys[1]++ }, func(n *api.LNode) { slices.Reverse(n.Keys) }, func(n *api.LNode) { n.Keys = nil },
		func(n *api.LNode) { n.Aggs = append(n.Aggs, api.Agg{}) }, func(n *api.LNode) { n.Aggs[1].Tag++ }, func(n *api.LNode) { n.Aggs[1].Arg = api.Expr{} }, func(n *api.LNode) { n.Aggs[1].Arg.Nodes[0].Col++ }, func(n *api.LNode) { slices.Reverse(n.Aggs) }, func(n *api.LNode) { n.Aggs = n.Aggs[1:] },
		func(n *api.LNode) { n.Items = append(n.Items, api.Expr{}) }, func(n *api.LNode) { n.Items[0].Nodes[0].Value.Kind++ }, func(n *api.LNode) { n.Items[0].Nodes[0].Value.S = "a" }, func(n *api.LNode) { n.Items[0].Nodes[0].Value.U++ }, func(n *api.LNode) { slices.Reverse(n.Items) }, func(n *api.LNode) { n.Items = nil },
		func(n *api.LNode) { n.Order = append(n.Order, api.Ord{}) }, func(n *api.LNode) { n.Order[1].Col++ }, func(n *api.LNode) { n.Order[1].Desc = true }, func(n *api.LNode) { slices.Reverse(n.Order) }, func(n *api.LNode) { n.Order = n.Order[:1] },
		func(n *api.LNode) { n.Limit++ }, func(n *api.LNode) { n.Limit = -1 },
	}
	var l []api.LNode
	for _, change := range changes {
		n := copyOf(stuffed())
		change(&n)
		l = append(l, n)
	}
	return l
}

// differ holds that two plans are not the same, either way round, though each is the same as its copy.
func differ(t *testing.T, p, q api.Plan) {
	t.Helper()
	if prop.Same(p, q) || prop.Same(q, p) || !prop.Same(q, copyOf(q)) || !prop.Same(copyOf(p), p) {
		t.Errorf("%v and %v", p, q)
	}
}

// P18.5: of what differs in one field of one node, at each place, of each fragment.
func TestSameOfNodes(t *testing.T) {
	in := scanT()
	for _, n := range others() {
		for _, l := range [][2][]api.LNode{{{stuffed()}, {n}}, {{in, stuffed(), in}, {in, n, in}}, {{in, in, stuffed()}, {in, in, n}}} {
			p, q := api.Frag{Nodes: l[0], At: api.AtAll}, api.Frag{Nodes: l[1], At: api.AtAll}
			differ(t, plan(p), plan(q))
			differ(t, plan(p, p, p), plan(p, p, q))
			differ(t, plan(p, p, p), plan(q, p, p))
		}
	}
}

// P18.5: of what differs in At, in Way, in Cols, in how many nodes and fragments there are.
func TestSameOfFrags(t *testing.T) {
	for _, p := range plans() {
		for frag := range p.Frags {
			for _, change := range []func(f *api.Frag){
				func(f *api.Frag) { f.At++ }, func(f *api.Frag) { f.At = 0 }, func(f *api.Frag) { f.Way++ }, func(f *api.Frag) { f.Way = -1 },
				func(f *api.Frag) { f.Cols = append(f.Cols, 0) }, func(f *api.Frag) { f.Cols = append([]int{7}, f.Cols...) }, func(f *api.Frag) { f.Nodes = nil }, func(f *api.Frag) { f.Nodes = f.Nodes[1:] },
				func(f *api.Frag) { f.Nodes = append(f.Nodes, api.LNode{}) }, func(f *api.Frag) { f.Nodes = append([]api.LNode{scanW()}, f.Nodes...) },
			} {
				differ(t, p, spoiled(p, frag, change))
			}
			if len(p.Frags[frag].Cols) > 0 {
				differ(t, p, spoiled(p, frag, func(f *api.Frag) { f.Cols[0]++ }))
				differ(t, p, spoiled(p, frag, func(f *api.Frag) { f.Cols = nil }))
			}
			differ(t, p, plan(slices.Delete(slices.Clone(p.Frags), frag, frag+1)...))
			differ(t, p, plan(slices.Insert(slices.Clone(p.Frags), frag, api.Frag{})...))
		}
		differ(t, p, plan(append(slices.Clone(p.Frags), api.Frag{})...))
		differ(t, p, plan())
		back := copyOf(p)
		slices.Reverse(back.Frags)
		differ(t, p, back)
	}
	for j, p := range plans() {
		for k, q := range plans() {
			if prop.Same(p, q) != (j == k) {
				t.Errorf("%v and %v", p, q)
			}
		}
	}
	cols := func(l ...int) api.Plan { return plan(api.Frag{Cols: l}) }
	differ(t, cols(0, 1), cols(1, 0))
	differ(t, cols(0, 1), cols(0))
	differ(t, cols(0, 0), cols(0))
	differ(t, plan(make([]api.Frag, 200)...), plan(make([]api.Frag, 201)...))
}

// P18.5: nil and empty lists are one.
func TestSameOfEmptyLists(t *testing.T) {
	none := api.LNode{Aggs: []api.Agg{{}}, Items: []api.Expr{{}}}
	empty := api.LNode{Kinds: []int{}, Cond: api.Expr{Nodes: []api.ENode{}}, Keys: []int{}, Aggs: []api.Agg{{Arg: api.Expr{Nodes: []api.ENode{}}}}, Items: []api.Expr{{Nodes: make([]api.ENode, 0, 3)}}, Order: []api.Ord{}}
	for _, x := range [][2]api.Plan{
		{{}, {Frags: []api.Frag{}}}, {plan(api.Frag{}), plan(api.Frag{Nodes: []api.LNode{}, Cols: []int{}})}, {plan(api.Frag{Nodes: []api.LNode{none}}), plan(api.Frag{Nodes: []api.LNode{empty}, Cols: make([]int, 0, 4)})},
	} {
		if !prop.Same(x[0], x[1]) || !prop.Same(x[1], x[0]) {
			t.Errorf("%v and %v", x[0], x[1])
		}
	}
}
