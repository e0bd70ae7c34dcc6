package plan_test

import (
	"slices"
	"testing"

	"bowsprit/api"
	"bowsprit/logic"
	"bowsprit/plan"
	"bowsprit/prop"
)

// eachTree makes trees by chance, and what Plan makes of each, if it is not too long.
func eachTree(t *testing.T, seed int64, times int, visit func(m *maker, l api.Logic, p api.Plan)) {
	t.Helper()
	m, made := newMaker(seed), 0
	for range times {
		l := m.newTree(16)
		p, e := plan.Plan(l, m.catalog)
		if e == api.OK {
			visit(m, l, p)
			made++
		} else if e != api.ErrLong && (e != api.ErrLogic || len(l.Nodes) <= api.MaxLogic) {
			t.Errorf("%v, %v: %v", l, m.catalog, e)
		}
	}
	if made < times*9/10 {
		t.Error(made)
	}
}

// P19.1: trees of chance become what is reckoned of them; each Op, each kind of side, each Way comes.
func TestByRule(t *testing.T) {
	ops, ways, lengths := map[[2]int]int{}, map[int]int{}, map[int]int{}
	eachTree(t, 191, 4000, func(m *maker, l api.Logic, p api.Plan) {
		if want := planByRule(l, m.catalog).ended(); !same(p, want) {
			t.Errorf("%v, %v:\n%v, not\n%v", l, m.catalog, p, want)
		}
		for _, f := range p.Frags {
			for _, n := range f.Nodes {
				ops[[2]int{n.Op, f.At}]++
			}
			ways[f.Way]++
		}
		lengths[len(p.Frags)]++
	})
	if len(ops) != 11+9 || len(ways) != 4 || len(lengths) < 12 { // no scan is AtOne, nor a half of what is all there
		t.Error(ops, ways, lengths)
	}
	for op, count := range ops {
		if count < 50 {
			t.Error(op, count)
		}
	}
}

// P19.4: what Plan makes may be, and is sound.
func TestSound(t *testing.T) {
	hashed := 0
	eachTree(t, 192, 3000, func(m *maker, l api.Logic, p api.Plan) {
		if frag, place, e := prop.Check(p, m.catalog); e != api.OK {
			t.Errorf("%v, %v: %v: %v at %v, %v", l, m.catalog, p, e, frag, place)
		}
		if frag, place, e := prop.Sound(p, m.catalog); e != api.OK {
			t.Errorf("%v, %v: %v: %v at %v, %v", l, m.catalog, p, e, frag, place)
		}
		for _, f := range p.Frags {
			if f.At == api.AtAll && slices.ContainsFunc(f.Nodes, func(n api.LNode) bool { return n.Op == api.LJoin || n.Op == api.LGroup || n.Op == api.LFinal }) {
				hashed++
			}
		}
	})
	if hashed < 1500 {
		t.Error(hashed)
	}
}

// scans are the tables that nodes scan, each as often.
func scans(l []api.LNode) (tables []int) {
	for _, n := range l {
		if n.Op == api.LScan {
			tables = append(tables, n.Table)
		}
	}
	return tables
}

// P19.4: it scans the tables that the tree scans, each as often; and the kinds of what comes are the tree's.
func TestScansAndKinds(t *testing.T) {
	several := 0
	eachTree(t, 193, 2000, func(m *maker, l api.Logic, p api.Plan) {
		var got []int
		for _, f := range p.Frags {
			got = append(got, scans(f.Nodes)...)
		}
		want := scans(l.Nodes)
		slices.Sort(got)
		slices.Sort(want)
		if !slices.Equal(got, want) {
			t.Errorf("%v: %v scans %v, not %v", l, p, got, want)
		}
		if len(slices.Compact(want)) > 1 {
			several++
		}
		kinds, e := logic.Kinds(l)
		if own, err := prop.Columns(p); e != api.OK || err != api.OK || !slices.Equal(own, kinds) {
			t.Errorf("%v: %v is of %v, %v, not %v", l, p, own, err, kinds)
		}
	})
	if several < 400 {
		t.Error(several)
	}
}

// P19.4, P19.2, P19.3: each stream goes out of one fragment's place, and comes to one's.
func TestStreams(t *testing.T) {
	count := 0
	eachTree(t, 194, 800, func(m *maker, l api.Logic, p api.Plan) {
		if m.Intn(20) == 0 {
			isTold(t, p)
		}
		sites := 1 + m.Intn(api.MaxSites)
		all, e := plan.Streams(p, sites)
		count += len(all)
		outs, ins := map[api.Stream]int{}, map[api.Stream]int{}
		for frag := range p.Frags {
			places, _ := plan.Places(p, frag, sites)
			for node := range sites + 1 {
				out, _ := plan.Outof(p, frag, sites, node)
				in, _ := plan.Into(p, frag, sites, node)
				if !slices.Contains(places, node) && len(out)+len(in) > 0 {
					t.Errorf("%v: %v at %v: %v, %v", p, frag, node, out, in)
				}
				for _, s := range out {
					outs[s]++
				}
				for _, s := range in {
					ins[s]++
					if reader, e := plan.Reader(p, s.Frag); reader != frag || e != api.OK {
						t.Errorf("%v: %v comes to %v, not %v", p, s, frag, reader)
					}
				}
			}
		}
		for _, s := range all {
			if outs[s] != 1 || ins[s] != 1 {
				t.Errorf("%v: %v goes out %v times, comes %v times", p, s, outs[s], ins[s])
			}
		}
		if e != api.OK || len(outs) != len(all) || len(ins) != len(all) {
			t.Errorf("%v: %v, %v, %v", p, all, outs, ins)
		}
	})
	if count < 10000 {
		t.Error(count)
	}
}
