package mean_test

import (
	"slices"
	"testing"

	"bowsprit/api"
)

// over joins the rows at a node with themselves three times: of 3 rows it comes to 81, of 4 to 256, which is too much.
func over() []api.LNode {
	return []api.LNode{scanU(), scanU(), each(), scanU(), each(), scanU(), each(), picked(0)}
}

// Rows of u of which bad(0, 0) faults, and of which over is too much.
const (
	faulty = "1 / 0"
	many   = "1 / 2 / 3 / 4"
)

// P21.1 to P21.3: an instance that faults, by each operator that can; behind it nothing is reached.
func TestFaults(t *testing.T) {
	for _, l := range [][]api.LNode{
		{scanU(), filter(badTruth(0, 0)), picked(0)}, {scanU(), project(bad(0, 0))}, {scanU(), scanU(), join(badTruth(0, 0)), picked(0)}, {scanU(), scanU(), leftJoin(badTruth(1, 0)), picked(0)},
		{scanU(), group(nil, agg(api.AggSum, bad(0, 0)))}, {scanU(), group([]int{0}, agg(api.AggMin, bad(0, 0))), picked(0)},
	} {
		r := of(ofU("5", faulty, ""), onAll(api.WayGather, l...), onOne(api.WayCast, input(0, ki)), onAll(api.WayGather, input(1, ki)), root(input(2, ki)))
		r.meansEnds(t, true, false)
		r.ends(t, 0, 2, api.ErrFault)
		r.goes(t, 0, 2, 0, "")
		r.unreached(t, 1, 0)
		for node := 1; node <= 3; node++ {
			r.goes(t, 1, 0, node, "")
			r.unreached(t, 2, node)
			r.goes(t, 2, node, 0, "")
		}
		r.unreached(t, 3, 0)
		if x := r.isAllAsReckoned(t); !x.Fault {
			t.Error(l)
		}
	}
}

// P21.1 to P21.3: one that is too much, by each operator that can be.
func TestOvers(t *testing.T) {
	rows := list("1 / 2 / 3 / 4 / 5 / 6 / 7 / 8 / 9 / 10 / 11 / 12") // of each with each there are 144
	twice := []api.LNode{scanU(), scanU(), each(), picked(0)}
	for _, more := range [][]api.LNode{
		{scanU(), each(), picked(0)}, {scanU(), leftJoin(on(api.NGt, col(0), num(0))), picked(0)},
		{scanU(), scanU(), each(), picked(0), union()},
	} {
		l := append(append([]api.LNode{}, twice...), more...)
		r := of(laid(some(), 3, []int{3}, nil, rows), by(onAll(api.WayShuffle, l...), 0), onAll(api.WayGather, input(0, ki)), root(input(1, ki)))
		r.meansEnds(t, false, true)
		r.ends(t, 0, 3, api.ErrOver)
		r.comes(t, 0, 1, "")
		for node := 1; node <= 3; node++ {
			r.goes(t, 0, 3, node, "")
			r.unreached(t, 1, node)
		}
		r.unreached(t, 2, 0)
		r.isAllAsReckoned(t)
	}
}

// P21.1: a sum may leave 64 bits at one node, and come back of all: what faults is its end alone.
func TestSumsThatComeBack(t *testing.T) {
	const most = "9223372036854775807"
	frags := []api.Frag{onAll(api.WayGather, scanU(), partial(nil, agg(api.AggSum, col(0)))), root(input(0, ks), final(0, api.AggSum))}
	of(ofU(most+" / 1", "-1"), frags...).meansRows(t, most)
	r := of(ofU(most, most), frags...)
	r.meansEnds(t, true, false)
	r.comes(t, 0, 1, "S"+most)
	r.ends(t, 1, 0, api.ErrFault)
	of(ofU(most+" / "+most+" / 1", "5", "-"+most+" / -6"), frags...).meansRows(t, most)
	of(ofU(most+" / 1", "-1"), onAll(api.WayGather, scanU(), group(nil, agg(api.AggSum, col(0)))), root(input(0, ki))).meansEnds(t, true, false)
}

// P21.1: an end is one of the last fragment's, too, and of one at one node.
func TestEndsAtOne(t *testing.T) {
	r := of(ofU("0", "1"), onAll(api.WayGather, scanU()), root(input(0, ki), project(bad(0, 0))))
	r.meansEnds(t, true, false)
	r.ends(t, 1, 0, api.ErrFault)
	r.goes(t, 0, 1, 0, "0")
	r = of(ofU("1 / 2 / 3", "4 / 5 / 6"), onAll(api.WayGather, scanU(), scanU(), each()), onAll(api.WayGather, scanU(), scanU(), each()), onOne(api.WayGather, input(0, ki, ki), input(1, ki, ki), each(), picked(0)), root(input(2, ki)))
	r.meansEnds(t, false, true) // 18 rows and 18 rows
	r.ends(t, 2, 0, api.ErrOver)
	r.unreached(t, 3, 0)
	r.goes(t, 2, 0, 0, "")
	r.goes(t, 0, 2, 0, "4 4 / 4 5 / 4 6 / 5 4 / 5 5 / 5 6 / 6 4 / 6 5 / 6 6")
}

// P21.1: both in one plan: of two fragments, or of one at two nodes; and one that both would be: the first operator says which.
func TestFaultsAndOvers(t *testing.T) {
	faults := []api.LNode{scanU(), project(bad(0, 0))}
	reader := root(input(0, ki), input(1, ki), union())
	r := of(ofU(many, "0", "7"), onAll(api.WayGather, over()...), onAll(api.WayGather, faults...), reader)
	r.meansEnds(t, true, true)
	r.ends(t, 0, 1, api.ErrOver)
	r.comes(t, 0, 2, "0")
	r.ends(t, 1, 2, api.ErrFault)
	r.comes(t, 1, 3, "0")
	r.unreached(t, 2, 0)
	r = of(ofU(many+" / 0"), onAll(api.WayGather, over()...), onAll(api.WayGather, faults...), reader) // at the same node
	r.meansEnds(t, true, true)
	r.ends(t, 0, 1, api.ErrOver)
	r.ends(t, 1, 1, api.ErrFault)
	both := append(over(), filter(badTruth(0, 0)))
	first := append([]api.LNode{scanU(), filter(badTruth(0, 0))}, over()[1:]...)
	within := []api.LNode{scanU(), scanU(), each(), scanU(), each(), scanU(), join(badTruth(0, 0)), picked(0)}
	r = of(ofU(many+" / 0", "0", "5"), onAll(api.WayGather, both...), root(input(0, ki)))
	r.meansEnds(t, true, true) // of one fragment, at two nodes
	r.ends(t, 0, 1, api.ErrOver)
	r.ends(t, 0, 2, api.ErrFault)
	r.comes(t, 0, 3, "5")
	r = of(ofU(many+" / 0"), onAll(api.WayGather, both...), root(input(0, ki)))
	r.meansEnds(t, false, true)
	r = of(ofU(many+" / 0"), onAll(api.WayGather, first...), root(input(0, ki)))
	r.meansEnds(t, true, false)
	r = of(ofU(many+" / 0"), onAll(api.WayGather, within...), root(input(0, ki)))
	r.meansEnds(t, true, false) // a join that does both faults
}

// P21.1 to P21.3: some nodes' instances alone have an end, each node's by itself: which ones, and which of both; nothing is reached behind them.
func TestSomeNodesAlone(t *testing.T) {
	const nodes = 3
	l := append(over(), filter(badTruth(0, 0)))
	parts := []string{"", "5", "0", many}
	ends := []api.Errno{api.OK, api.OK, api.ErrFault, api.ErrOver}
	for code := range 64 {
		var rows []string
		want := api.Mean{}
		for n := code; len(rows) < nodes; n /= 4 {
			rows = append(rows, parts[n%4])
			want.Fault = want.Fault || ends[n%4] == api.ErrFault
			want.Over = want.Over || ends[n%4] == api.ErrOver
		}
		for _, way := range []int{api.WayGather, api.WayCast} {
			r := of(ofU(rows...), onAll(way, l...), onOne(api.WayGather, input(0, ki)), root(input(1, ki)))
			if way == api.WayCast {
				r = of(ofU(rows...), onAll(way, l...), onAll(api.WayGather, input(0, ki), distinct()), root(input(1, ki)))
			}
			for k, text := range rows {
				e := ends[slices.Index(parts, text)]
				come := list(text)
				if e != api.OK {
					come = nil
				}
				r.is(t, 0, k+1, told{come, true, e})
				for _, to := range placesByRule(r.Plan, 1, nodes) {
					r.isStream(t, api.Stream{From: k + 1, To: to}, come)
				}
			}
			for _, node := range placesByRule(r.Plan, 1, nodes) {
				if want.Fault || want.Over {
					r.unreached(t, 1, node)
				}
			}
			if x := r.isAllAsReckoned(t); x.Fault != want.Fault || x.Over != want.Over {
				t.Errorf("%v: %v", rows, x)
			}
		}
	}
}

// P21.1: a fault in a fragment that another end keeps from being reached is none of the plan's; one that is reached beside it is.
func TestEndsBehindEnds(t *testing.T) {
	always := project(on(api.NDiv, num(1), num(0))) // it faults of any row
	chain := []api.Frag{onAll(api.WayGather, over()...), onOne(api.WayGather, input(0, ki), group(nil, agg(api.AggAll)), always), root(input(1, ki))}
	r := of(ofU("", many), chain...)
	r.meansEnds(t, false, true)
	r.unreached(t, 1, 0)
	of(ofU("1", "2"), chain...).meansEnds(t, true, false) // it would have faulted, whatever comes to it
	tooMuch := []api.LNode{input(0, ki), scanU(), each(), scanU(), each(), scanU(), each(), picked(0)}
	r = of(ofU("0", many), onAll(api.WayCast, scanU(), filter(badTruth(0, 0))), onAll(api.WayGather, tooMuch...), root(input(1, ki)))
	r.meansEnds(t, true, false)
	r.unreached(t, 1, 1)
	r.unreached(t, 1, 2)
	r = of(ofU("1", many), onAll(api.WayCast, scanU(), filter(badTruth(0, 0))), onAll(api.WayGather, tooMuch...), root(input(1, ki)))
	r.meansEnds(t, false, true)
	r.ends(t, 1, 2, api.ErrOver)
}

// P21.1 to P21.3: two ways to the last fragment, one at all nodes and one at one behind it each: what befalls on the one keeps nothing on the other one from being reached.
func TestEndsBeside(t *testing.T) {
	beside := []api.Frag{
		onAll(api.WayGather, scanU(), filter(badTruth(0, 0))),                     // faults of 0
		onOne(api.WayGather, input(0, ki), project(on(api.NDiv, num(1), num(0)))), // faults of any row
		onAll(api.WayGather, over()...),                                           // is too much of many
		onOne(api.WayGather, input(2, ki)),
		root(input(1, ki), input(3, ki), union()),
	}
	rows := func(s string) told { return told{rows: list(s), reached: true} }
	fault, tooMuch, not := told{reached: true, err: api.ErrFault}, told{reached: true, err: api.ErrOver}, told{}
	for text, want := range map[string][]told{
		"":            {rows(""), rows(""), rows(""), rows(""), rows("")},
		"1":           {rows("1"), fault, rows("1"), rows("1"), not},
		"0":           {fault, not, rows("0"), rows("0"), not},
		many:          {rows(many), fault, tooMuch, not, not},
		many + " / 0": {fault, not, tooMuch, not, not},
	} {
		r := of(ofU(text), beside...)
		for frag, x := range want {
			r.is(t, frag, placesByRule(r.Plan, frag, 1)[0], x)
		}
		is := func(e api.Errno) bool { return slices.ContainsFunc(want, func(x told) bool { return x.err == e }) }
		r.meansEnds(t, is(api.ErrFault), is(api.ErrOver))
		r.isAllAsReckoned(t)
	}
}
