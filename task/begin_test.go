package task_test

import (
	"slices"
	"testing"

	"bowsprit/api"
)

// fourWays is a plan of all Ways: 0 is cast, 1 shuffled, 2 gathered, 3 cast from one node, 4 gathered, 5 the last one.
func fourWays() api.Plan {
	return planOf(
		onAll(api.WayCast, scanU()),
		by(onAll(api.WayShuffle, scanU()), 0),
		onAll(api.WayGather, input(0, ki), input(1, ki), join(eq(0, 1))),
		onOne(api.WayCast, input(2, ki, ki), picked(0)),
		onAll(api.WayGather, input(3, ki), scanU(), union()),
		root(input(4, ki)),
	)
}

// ofPlan is the task of a fragment at a node as it is begun, with streams of fragments from nodes, and to nodes.
func ofPlan(p api.Plan, epoch, sites, number, node int, from map[int][]int, to []int) api.Task {
	x := api.Task{Epoch: epoch, Sites: sites, Number: number, Node: node, Frag: p.Frags[number], State: api.TaskGathers}
	for frag := range p.Frags {
		for _, n := range from[frag] {
			x.Ins = append(x.Ins, comes(frag, n, waits(1), ""))
		}
	}
	for _, n := range to {
		x.Outs = append(x.Outs, goes(n, fresh(0), ""))
	}
	return ofEpoch(x, epoch)
}

// P25.2: tasks of each fragment of all Ways, at each node of so many, of each epoch that there may be.
func TestBegin(t *testing.T) {
	p := fourWays()
	for n := 1; n <= api.MaxSites; n++ {
		e := 1 + n%api.MaxEpochs
		all, one := numbers(1, n), []int{0}
		for _, node := range all {
			begins(t, p, e, n, 0, node, ofPlan(p, e, n, 0, node, nil, all))
			begins(t, p, e, n, 1, node, ofPlan(p, e, n, 1, node, nil, all))
			begins(t, p, e, n, 2, node, ofPlan(p, e, n, 2, node, map[int][]int{0: all, 1: all}, one))
			begins(t, p, e, n, 4, node, ofPlan(p, e, n, 4, node, map[int][]int{3: one}, one))
			noTask(t, p, e, n, 3, node)
			noTask(t, p, e, n, 5, node)
		}
		begins(t, p, e, n, 3, 0, ofPlan(p, e, n, 3, 0, map[int][]int{2: all}, all))
		begins(t, p, e, n, 5, 0, ofPlan(p, e, n, 5, 0, map[int][]int{4: all}, nil))
		for _, frag := range []int{0, 1, 2, 4} {
			for _, node := range append(far(), -1, 0, n+1, n+2) {
				noTask(t, p, e, n, frag, node)
			}
		}
		for _, frag := range append(far(), -2, -1, 6, 7, api.MaxFrags) {
			for _, node := range []int{-1, 0, 1, n, n + 1} {
				noTask(t, p, e, n, frag, node)
			}
		}
	}
}

// P25.2: epochs and counts of nodes, just and by one more; several of these wrong at once.
func TestBeginOfSizes(t *testing.T) {
	p := fourWays()
	sizes := append(far(), numbers(-1, 14)...)
	for _, e := range sizes {
		for _, n := range sizes {
			may := e >= 1 && e <= api.MaxEpochs && n >= 1 && n <= api.MaxSites
			for frag, node := range []int{1, 1, 1, 0, 1, 0} {
				got := asRule(t, "Begin", given{Plan: p, Epoch: e, Sites: n, Number: frag, Node: node})
				if may != (got.Err == api.OK) {
					t.Errorf("Begin of %v, %v, %v, %v: %v", e, n, frag, node, got)
				}
			}
			if may {
				continue
			}
			noTask(t, p, e, n, 6, 1)
			noTask(t, p, e, n, 0, 0)
			noTask(t, p, e, n, -1, -1)
			noTask(t, api.Plan{}, e, n, 0, 1)
			noTask(t, planOf(onAll(api.WayGather, filter(num(1)))), e, n, 0, 1)
		}
	}
}

// whatever are plans that may not be, each of whose fragments has nodes that may be.
func whatever() []api.Plan {
	return []api.Plan{
		planOf(onAll(api.WayGather, scanU())), planOf(root(input(0, ki))), planOf(root(input(7, ki))), // nobody reads; itself; none
		planOf(onAll(api.WayGather, input(1, ki)), onAll(api.WayCast, input(0, ki))), // in a circle
		planOf(onOne(api.WayGather, input(1, ki)), onAll(api.WayGather, scanU())),    // the reader ahead
		planOf(onAll(api.WayGather, scanU()), onOne(api.WayCast, input(0, ki), input(0, ki), union()), onAll(api.WayGather, input(0, ki)), root(input(1, ki), input(2, kt), input(0, ki), each(), each())), // read several times, as other kinds
		planOf(api.Frag{Nodes: steps(scanU())}, api.Frag{Nodes: steps(input(0, kt)), At: 7, Way: -1, Cols: []int{-3, 900}}, api.Frag{Nodes: steps(input(1, kn)), At: api.AtOne, Way: api.WayShuffle}),
		planOf(slices.Repeat([]api.Frag{onAll(api.WayGather, scanU())}, api.MaxFrags)...),
		planOf(slices.Repeat([]api.Frag{onAll(api.WayGather, input(29, ki), input(3, ki), union())}, api.MaxFrags)...),
		planOf(onAll(api.WayGather, scan(3, kb)), api.Frag{}, root(input(0, ki))), // the second one's nodes may not be
	}
}

// P25.2: plans that may not be, whichever: the task of a fragment whose nodes may be, with the streams that layer 19 says of it.
func TestBeginOfWhatever(t *testing.T) {
	begun, ins, outs := 0, 0, 0
	for _, p := range whatever() {
		for _, n := range []int{1, 2, 5} {
			for frag := -1; frag <= len(p.Frags); frag++ {
				for node := -1; node <= n+1; node++ {
					got := asRule(t, "Begin", given{Plan: p, Epoch: epoch, Sites: n, Number: frag, Node: node})
					if got.Err == api.OK {
						begun, ins, outs = begun+1, ins+len(got.Task.Ins), outs+len(got.Task.Outs)
					}
				}
			}
		}
	}
	if begun < 500 || ins < 150 || outs < 150 {
		t.Error(begun, ins, outs)
	}
	circle := whatever()[3]
	begins(t, circle, epoch, 2, 1, 2, ofPlan(circle, epoch, 2, 1, 2, map[int][]int{0: {1, 2}}, []int{1, 2}))
	itself := whatever()[1]
	begins(t, itself, epoch, 2, 0, 0, ofPlan(itself, epoch, 2, 0, 0, map[int][]int{0: {0}}, []int{0}))
	several := whatever()[5] // the first reader alone has streams of it
	begins(t, several, epoch, 2, 1, 0, ofPlan(several, epoch, 2, 1, 0, map[int][]int{0: {1, 2}}, []int{0}))
	begins(t, several, epoch, 2, 2, 1, ofPlan(several, epoch, 2, 2, 1, nil, []int{0}))
	begins(t, several, epoch, 2, 3, 0, ofPlan(several, epoch, 2, 3, 0, map[int][]int{1: {0}, 2: {1, 2}}, nil))
}

// P25.2: no fragments, as many as there may be, one more; and nodes that may not be, of that fragment, or of another one.
func TestNoBegin(t *testing.T) {
	noTask(t, api.Plan{}, 1, 1, 0, 1)
	noTask(t, api.Plan{}, 1, 1, 0, 0)
	scans := slices.Repeat([]api.Frag{onAll(api.WayGather, scanU())}, api.MaxFrags)
	begins(t, planOf(scans...), epoch, 4, 29, 4, ofPlan(planOf(scans...), epoch, 4, 29, 4, nil, nil))
	more := planOf(append(scans, scans[0])...)
	for _, frag := range []int{0, 29, 30} {
		noTask(t, more, epoch, 4, frag, 4)
	}
	for _, nodes := range wrongNodes() {
		for _, at := range []int{api.AtAll, api.AtOne, 0} {
			wrong := api.Frag{Nodes: nodes, At: at, Way: api.WayGather}
			p := planOf(wrong, onAll(api.WayGather, scanU()), root(input(1, ki)))
			for node := range 3 {
				noTask(t, p, epoch, 2, 0, node)
			}
			begins(t, p, epoch, 2, 1, 2, ofPlan(p, epoch, 2, 1, 2, nil, []int{0}))
			if len(nodes) == 0 || nodes[0].Op != api.LInput {
				begins(t, p, epoch, 2, 2, 0, ofPlan(p, epoch, 2, 2, 0, map[int][]int{1: {1, 2}}, nil))
			}
		}
	}
}

// P25.2: plans of chance, at all of their nodes, and at some where they do not run.
func TestBeginByRule(t *testing.T) {
	m := newMaker(251)
	met := tally{}
	for range 300 {
		p := m.newPlan(8)
		if m.Intn(2) == 0 {
			p = m.changed(p)
		}
		n := m.nodes()
		for range 12 {
			g := given{Plan: p, Epoch: 1 + m.Intn(13), Sites: n, Number: m.Intn(len(p.Frags)+1) - m.Intn(2), Node: m.Intn(n+3) - 1}
			if l := placesByRule(p, g.Number, n); len(l) > 0 && m.Intn(2) == 0 {
				g.Node = l[m.Intn(len(l))]
			}
			met[asRule(t, "Begin", g).Err]++
		}
	}
	met.metAll(t, api.OK, api.ErrArg)
	if met[api.OK] < 1000 {
		t.Error(met)
	}
}
