package mean_test

import (
	"slices"
	"testing"

	"bowsprit/api"
	"bowsprit/mean"
)

// fourWays are fragments with each of the Ways, at all nodes and at one, of rows of u: 0 and 1 are scans, 2 reads both, 3 to 6 one each.
func fourWays() []api.Frag {
	return []api.Frag{
		onAll(api.WayCast, scanU()),
		by(onAll(api.WayShuffle, scanU()), 0),
		onAll(api.WayGather, input(0, ki), input(1, ki), join(eq(0, 1))),
		by(onOne(api.WayShuffle, input(2, ki, ki), picked(1)), 0),
		onAll(api.WayGather, input(3, ki), project(on(api.NAdd, col(0), num(10)))),
		onOne(api.WayGather, input(4, ki)),
		root(input(5, ki), distinct()),
	}
}

// at are the rows that lie at a node by the hash of their first column.
func at(rows string, node, nodes int) (l []api.Row) {
	for _, r := range list(rows) {
		if nodeOf(r, []int{0}, nodes) == node {
			l = append(l, r)
		}
	}
	return l
}

// P21.2: what each instance comes to, of the first fragment, of the last one, of those at all nodes and of those at one.
func TestInstances(t *testing.T) {
	for _, parts := range [][]string{{"1 / 2 / 2 / 3"}, {"3 / 2", "2 / 1"}, {"", "3 / 2 / 1 / 2"}, {"2", "3", "1 / 2"}, {"", "", "2 / 2", "", "1 / 3"}, {"", "1", "", "2", "2", "", "", "3"}} {
		l := ofU(parts...)
		r := of(l, fourWays()...)
		r.meansRows(t, "11 / 12 / 13")
		for k, rows := range parts {
			node := k + 1
			r.is(t, 0, node, told{rows: sortedByRule(list(rows)), reached: true})
			r.is(t, 1, node, told{rows: sortedByRule(list(rows)), reached: true})
			r.is(t, 2, node, told{rows: at("1 1 / 2 2 / 2 2 / 2 2 / 2 2 / 3 3", node, len(parts)), reached: true})
			var more []api.Row
			for _, x := range at("1 / 2 / 2 / 2 / 2 / 3", node, len(parts)) {
				more = append(more, api.Row{number(x[0].N + 10)})
			}
			r.is(t, 4, node, told{rows: more, reached: true})
		}
		r.comes(t, 3, 0, "1 / 2 / 2 / 2 / 2 / 3")
		r.comes(t, 5, 0, "11 / 12 / 12 / 12 / 12 / 13")
		r.comes(t, 6, 0, "11 / 12 / 13")
	}
}

// P21.2: the rows of an instance stand as its fragment's root has them: sorted the other way round, cut, sums under way.
func TestInstancesAsTheirRoots(t *testing.T) {
	l := ofU("1 / 2 / NULL", "4 / 3", "")
	r := of(l, onAll(api.WayGather, scanU(), sortBy(2, down(0))), root(input(0, ki), sortBy(3, down(0))))
	r.comes(t, 0, 1, "2 / 1")
	r.comes(t, 0, 2, "4 / 3")
	r.comes(t, 0, 3, "")
	r.comes(t, 1, 0, "4 / 3 / 2")
	r = of(l, onAll(api.WayGather, scanU(), partial(nil, agg(api.AggSum, col(0)), agg(api.AggAll))), root(input(0, ks, ki), final(0, api.AggSum, api.AggAll)))
	r.comes(t, 0, 1, "S3 3")
	r.comes(t, 0, 2, "S7 2")
	r.comes(t, 0, 3, "")
	r.comes(t, 1, 0, "10 5")
}

// P21.2: an instance asks nothing of those that are not below it: these may fault, or be too much.
func TestInstancesBeside(t *testing.T) {
	l := ofU("1 / 2", "3")
	faults := onAll(api.WayGather, scanU(), project(bad(0, 2)))
	r := of(l, faults, onAll(api.WayGather, scanU()), onOne(api.WayGather, input(1, ki)), root(input(0, ki), input(2, ki), union()))
	r.comes(t, 1, 1, "1 / 2")
	r.comes(t, 1, 2, "3")
	r.comes(t, 2, 0, "1 / 2 / 3")
	r.unreached(t, 3, 0)
}

// noInstances are a plan's instances that there are not: of fragments and nodes just beyond, and far beyond.
func noInstances(p api.Plan, nodes int) (l [][2]int) {
	frags := append(nowhere(len(p.Frags)), numbers(0, len(p.Frags)-1)...)
	for _, frag := range frags {
		for _, node := range append(nowhere(nodes+1), numbers(0, nodes)...) {
			if !slices.Contains(placesByRule(p, frag, nodes), node) {
				l = append(l, [2]int{frag, node})
			}
		}
	}
	return l
}

// P21.2: instances that there are not: of numbers below 0 and beyond, the node 0 of a fragment at all, each other node of one at one.
func TestNoInstances(t *testing.T) {
	for nodes := 1; nodes <= api.MaxSites; nodes++ {
		r := of(laid(some(), nodes, numbers(1, nodes), nil, counted(4)), fourWays()...)
		for _, i := range noInstances(r.Plan, nodes) {
			r.noInstance(t, i[0], i[1])
		}
		for frag, f := range r.Plan.Frags {
			if f.At == api.AtOne {
				r.noInstance(t, frag, 1)
				r.noInstance(t, frag, nodes)
			} else {
				r.noInstance(t, frag, 0)
				r.noInstance(t, frag, nodes+1)
			}
			r.noInstance(t, frag, -1)
		}
		r.noInstance(t, -1, 0)
		r.noInstance(t, -1, 1)
		r.noInstance(t, len(r.Plan.Frags), 0)
		r.noInstance(t, len(r.Plan.Frags), 1)
	}
}

// P21.2: there is none either, where all of the plan has an end, and nothing is reached.
func TestNoInstancesOfEnds(t *testing.T) {
	for _, frags := range [][]api.Frag{
		{onAll(api.WayGather, scanU(), project(bad(0, 2))), root(input(0, ki))},
		{onAll(api.WayCast, scanU(), scanU(), each(), scanU(), each()), onAll(api.WayGather, input(0, ki, ki, ki), picked(0)), root(input(1, ki))},
	} {
		r := of(ofU("", "1 / 2 / 3 / 4 / 5 / 6", ""), frags...)
		for _, i := range noInstances(r.Plan, 3) {
			r.noInstance(t, i[0], i[1])
		}
	}
}

// P21.2: whatever stands in To, an instance is the same: the streams' own ones, and each other one.
func TestWhateverTo(t *testing.T) {
	r := of(ofU("1 / 2", "2 / 3"), fourWays()...)
	for frag := range r.Plan.Frags {
		for _, node := range placesByRule(r.Plan, frag, 2) {
			want := reckoned(r.Plan, r.Layout).instance(frag, node)
			for to := -300; to < 300; to++ {
				rows, reached, e := mean.Instance(r.Plan, r.Catalog, r.Layout, api.Stream{Frag: frag, From: node, To: to})
				if !reached || e != api.OK || !same(rows, want.rows) {
					t.Errorf("%v at %v, to %v: %v, %v, %v", frag, node, to, rows, reached, e)
				}
			}
		}
	}
}
