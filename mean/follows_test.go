package mean_test

import (
	"slices"
	"testing"

	"bowsprit/api"
	"bowsprit/denote"
	"bowsprit/mean"
	"bowsprit/plan"
	"bowsprit/prop"
)

// nodes is a count of them: few mostly, as many as there may be now and then.
func (m *maker) nodes() int {
	if m.Intn(10) == 0 {
		return 1 + m.Intn(api.MaxSites)
	}
	return 1 + m.Intn(4)
}

// some are some of a plan's streams, and such as there are not.
func (m *maker) some(p api.Plan, nodes int) (l []api.Stream) {
	for range 10 {
		l = append(l, api.Stream{Frag: m.Intn(len(p.Frags)+2) - 1, From: m.Intn(nodes+3) - 1, To: m.Intn(nodes+3) - 1})
	}
	all := streamsByRule(p, nodes)
	for range min(len(all), 10) {
		l = append(l, all[m.Intn(len(all))])
	}
	return l
}

// P21.1 to P21.3: plans of chance, sound and not, over layouts of chance, and such with something changed in them.
func TestByRule(t *testing.T) {
	m := newMaker(211)
	seen, ways, ends, rows := map[api.Errno]int{}, map[[2]int]int{}, map[[2]bool]int{}, 0
	for range 300 {
		p := m.newPlan(8)
		nodes := m.nodes()
		r := run{p, m.catalog, m.laid(nodes, m.base())}
		x := r.isAsReckoned(t, m.some(p, nodes)...)
		ends[[2]bool{x.Fault, x.Over}]++
		rows += len(x.Rows)
		for _, f := range p.Frags {
			ways[[2]int{f.At, f.Way}]++
		}
		for range 3 {
			if m.Intn(2) == 0 {
				r.Plan = m.changed(r.Plan)
			} else {
				r.Layout = m.changedLayout(r.Layout)
			}
			e := errByRule(r.Plan, r.Catalog, r.Layout)
			if seen[e]++; e != api.OK {
				r.isRefused(t, e, append(m.some(p, nodes), api.Stream{Frag: 0, From: 1})...)
				break
			}
			r.isAsReckoned(t, m.some(r.Plan, len(r.Layout.Parts))...)
		}
	}
	for _, e := range []api.Errno{api.OK, api.ErrPlan, api.ErrFrag, api.ErrLayout, api.ErrScheme} {
		if seen[e] < 30 {
			t.Error(seen)
		}
	}
	if ends[[2]bool{false, false}] < 150 || ends[[2]bool{true, false}] < 30 || ends[[2]bool{false, true}] < 15 || rows < 1500 {
		t.Error(ends, rows)
	}
	if len(ways) != 3+4 { // no WayRoot is at all
		t.Error(ways)
	}
}

// P21.1 to P21.3: the same of each instance and each stream, of fewer plans.
func TestAllByRule(t *testing.T) {
	m := newMaker(216)
	for range 70 {
		p := m.newPlan(6)
		run{p, m.catalog, m.laid(m.nodes(), m.base())}.isAllAsReckoned(t)
	}
}

// whole is the database of a layout, whatever its order.
func whole(l api.Layout) api.Base {
	b := api.Base{Tables: make([][]api.Row, len(l.Parts[0].Tables))}
	for _, part := range l.Parts {
		for table, rows := range part.Tables {
			b.Tables[table] = append(b.Tables[table], rows...)
		}
	}
	return b
}

// isAsTheTree holds that a plan means what the tree comes to over all rows, if it is not too much, and that is not too long; and tells what the tree says.
func isAsTheTree(t *testing.T, tree api.Logic, r run) (said api.Errno, held bool) {
	t.Helper()
	want, e := denote.Rows(tree, whole(r.Layout))
	got, err := mean.Mean(r.Plan, r.Catalog, r.Layout)
	if err != api.OK {
		t.Fatal(r, err)
	}
	if got.Over || e == api.ErrLong {
		return e, false
	}
	if got.Fault != (e == api.ErrFault) || !same(got.Rows, want) {
		t.Errorf("%v as %v: %v, not %v, %v", tree, r, got, want, e)
	}
	if !mean.May(got, want, e) || mean.May(got, want, api.ErrOver) || e == api.OK && mean.May(got, nil, api.ErrFault) {
		t.Errorf("%v, %v, %v", got, want, e)
	}
	return e, true
}

// P21.5: what Plan makes of a tree means what the tree comes to: its rows, or just its fault; over trees, layouts and databases of chance.
func TestMeansWhatTheTreeComesTo(t *testing.T) {
	m := newMaker(212)
	seen, tooMuch, rows := map[api.Errno]int{}, 0, 0
	for range 500 {
		tree := m.newTree(9)
		p, e := plan.Plan(tree, m.catalog)
		if e == api.ErrLong {
			continue
		}
		if e != api.OK {
			t.Fatal(tree, e)
		}
		b := m.base()
		for range 2 {
			r := run{p, m.catalog, m.laid(1+m.Intn(api.MaxSites), b)}
			said, held := isAsTheTree(t, tree, r)
			if !held {
				tooMuch++
				continue
			}
			if seen[said]++; said == api.OK {
				x, _ := mean.Mean(p, m.catalog, r.Layout)
				rows += len(x.Rows)
			}
		}
	}
	if seen[api.OK] < 500 || seen[api.ErrFault] < 60 || tooMuch < 40 || rows < 3000 || len(seen) != 2 {
		t.Error(seen, tooMuch, rows)
	}
}

// P21.5: the same of each Op by itself, over tables with Keys and without, that have all their rows at one node, or spread over each count of nodes.
func TestEachOpMeansWhatItComesTo(t *testing.T) {
	aggs := []api.Agg{agg(api.AggAll), agg(api.AggCount, col(1)), agg(api.AggSum, col(1)), agg(api.AggMin, col(1)), agg(api.AggMax, col(1))}
	rows := [][]api.Row{list("1 5 / 1 7 / 2 NULL / NULL 5 / 3 3"), list("1 / 3 / 3 / 9 / NULL"), list("'a' 5 / 'b' 1 / NULL NULL"), list("5 'a' / 5 'a' / 1 'b'")}
	sums := []api.Row{{number(1), number(1<<63 - 1)}, {number(1), number(1)}, {number(2), number(1<<63 - 1)}, {number(2), number(1)}, {number(2), number(-1)}}
	trees := [][]api.LNode{
		{scanT()}, {scanU()}, {scanV()}, {scanW()}, {scanT(), filter(on(api.NGt, col(1), num(4)))}, {scanT(), filter(badTruth(1, 7))}, {scanT(), filter(badTruth(1, 8))},
		{scanT(), picked(1)}, {scanT(), project(col(0), bad(1, 3))}, {scanT(), distinct()}, {scanU(), distinct()}, {scanW(), distinct()}, {scanT(), picked(1), distinct()},
		{scanT(), group([]int{0}, aggs...)}, {scanT(), group([]int{1}, aggs...)}, {scanT(), group([]int{1, 0}, aggs...)}, {scanT(), group(nil, aggs...)}, {scanW(), group([]int{1}, agg(api.AggAll), agg(api.AggMin, col(1)))},
		{scanT(), sortBy(-1, down(1))}, {scanT(), sortBy(3, down(1))}, {scanU(), sortBy(0)}, {scanU(), sortBy(2)},
		{scanT(), scanU(), join(eq(0, 2))}, {scanT(), scanU(), leftJoin(eq(0, 2))}, {scanU(), scanT(), leftJoin(eq(0, 1))}, {scanT(), scanU(), each()}, {scanT(), scanU(), leftJoin(badTruth(2, 9))}, {scanT(), scanU(), join(badTruth(2, 8))},
		{scanT(), scanW(), leftJoin(eq(1, 2))}, {scanU(), scanW(), join(eq(0, 1))}, {scanV(), scanW(), leftJoin(on(api.NAnd, eq(0, 3), eq(1, 2)))},
		{scanU(), scanT(), picked(1), union()}, {scanT(), scanT(), union()}, {scanT(), picked(0), scanU(), union(), distinct()}, {scanT(), group(nil, agg(api.AggSum, col(1))), scanU(), union()},
		{scanT(), group(nil, agg(api.AggAll)), scanU(), join(on(api.NGt, col(0), col(1)))}, {scanU(), scanT(), group(nil, agg(api.AggAll)), leftJoin(on(api.NLt, col(0), col(1)))},
	}
	for nodes := 1; nodes <= api.MaxSites; nodes++ {
		for _, l := range trees {
			p, e := plan.Plan(tree(l...), some())
			if e != api.OK {
				t.Fatal(l, e)
			}
			for _, spread := range [][]int{numbers(1, nodes), {nodes}, {1}, {nodes, 1}} {
				for _, first := range [][]api.Row{rows[0], sums, nil} {
					r := run{p, some(), laid(some(), nodes, spread, first, rows[1], rows[2], rows[3])}
					if _, held := isAsTheTree(t, tree(l...), r); !held {
						t.Errorf("%v: too much", r)
					}
				}
				r := run{p, some(), bare(some(), nodes)}
				isAsTheTree(t, tree(l...), r)
			}
		}
	}
}

// P21.5: what is sound means the same at however many nodes, whoever planned it.
func TestSoundMeansTheSame(t *testing.T) {
	m := newMaker(213)
	alike, others := 0, 0
	for range 1500 {
		p := m.newPlan(6)
		_, _, e := prop.Sound(p, m.catalog)
		b := m.base()
		want, _ := mean.Mean(p, m.catalog, m.laid(1, b))
		got, _ := mean.Mean(p, m.catalog, m.laid(2+m.Intn(5), b))
		switch {
		case want.Over || got.Over:
		case e != api.OK && !mean.Same(got, want):
			others++
		case e != api.OK:
		case got.Fault != want.Fault || !same(sortedByRule(got.Rows), sortedByRule(want.Rows)):
			t.Errorf("%v, %v of %v: %v, not %v", p, m.catalog, b, got, want)
		default:
			alike++
		}
	}
	if alike < 300 || others < 300 {
		t.Error(alike, others)
	}
}

// P21.5: the rows of a fragment's streams are its instances', each once, of WayCast as often as there are nodes; each instance that is reached comes to rows, or has an end.
func TestStreamsHaveTheInstances(t *testing.T) {
	m := newMaker(214)
	ways, ends := map[int]int{}, map[api.Errno]int{}
	for k := range 150 {
		p := m.newPlan(7)
		if k%2 == 0 {
			made, e := plan.Plan(m.newTree(7), m.catalog)
			if e != api.OK {
				continue
			}
			p = made
		}
		nodes := m.nodes()
		l := m.laid(nodes, m.base())
		for frag, f := range p.Frags {
			for _, from := range placesByRule(p, frag, nodes) {
				rows, reached, e := mean.Instance(p, m.catalog, l, api.Stream{Frag: frag, From: from})
				if e != api.OK && e != api.ErrFault && e != api.ErrOver || e != api.OK && !reached || len(rows) > 0 && (!reached || e != api.OK) {
					t.Errorf("%v, %v: %v at %v: %v, %v, %v", p, l, frag, from, rows, reached, e)
				}
				if reached {
					ends[e]++
				}
				streams, _ := plan.Outof(p, frag, nodes, from)
				var got []api.Row
				for _, s := range streams {
					own, e := mean.Stream(p, m.catalog, l, s)
					if e != api.OK {
						t.Errorf("%v, %v: %v: %v", p, l, s, e)
					}
					if f.Way == api.WayCast && !same(own, rows) {
						t.Errorf("%v, %v: %v: %v, not %v", p, l, s, own, rows)
					}
					got = append(got, own...)
				}
				want := rows
				if f.Way == api.WayCast {
					want = slices.Concat(slices.Repeat([][]api.Row{rows}, nodes)...)
				}
				if f.Way == api.WayRoot {
					want = nil
				}
				ways[f.Way] += len(got)
				if !same(sortedByRule(got), sortedByRule(want)) {
					t.Errorf("%v, %v: %v at %v: %v, not %v", p, l, frag, from, got, want)
				}
			}
		}
	}
	if ways[api.WayShuffle] < 800 || ways[api.WayCast] < 2000 || ways[api.WayGather] < 1500 || ends[api.OK] < 1000 || ends[api.ErrFault] < 12 || ends[api.ErrOver] < 12 {
		t.Error(ways, ends)
	}
}

// P21.1, P21.2: Mean says what the instances say: the last one's rows, the ends of all.
func TestMeanSaysWhatInstancesSay(t *testing.T) {
	m := newMaker(215)
	several := 0
	for range 200 {
		p := m.newPlan(7)
		nodes := m.nodes()
		l := m.laid(nodes, m.base())
		var want api.Mean
		ends := 0
		for frag := range p.Frags {
			places, _ := plan.Places(p, frag, nodes)
			for _, node := range places {
				rows, reached, e := mean.Instance(p, m.catalog, l, api.Stream{Frag: frag, From: node})
				if frag == len(p.Frags)-1 && reached && e == api.OK {
					want.Rows = rows
				}
				if e != api.OK {
					ends++
				}
				want.Fault = want.Fault || e == api.ErrFault
				want.Over = want.Over || e == api.ErrOver
			}
		}
		if got, e := mean.Mean(p, m.catalog, l); e != api.OK || !same(got, want) || (got.Fault || got.Over) && len(got.Rows) > 0 {
			t.Errorf("%v, %v: %v, %v, not %v", p, l, got, e, want)
		}
		if ends > 1 {
			several++
		}
	}
	if several < 7 {
		t.Error(several)
	}
}
