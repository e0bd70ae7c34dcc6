package prop_test

import (
	"slices"
	"testing"

	"bowsprit/api"
	"bowsprit/logic"
	"bowsprit/place"
	"bowsprit/prop"
	"bowsprit/row"
)

// isRuled holds all that is said of a plan against what is reckoned of it, and tells what Sound says.
func isRuled(t *testing.T, p api.Plan, c api.Catalog) api.Errno {
	t.Helper()
	frag, place, e := checkByRule(p, c)
	says(t, frag, place, e, p, c)
	if e != api.OK {
		return e
	}
	for frag, f := range p.Frags {
		kinds := must(kindsByRule(f.Nodes))
		nodesAre(t, f.Nodes, kinds...)
		var want []api.Prop
		for place := range f.Nodes {
			want = append(want, propByRule(p, c, frag, place))
		}
		if got, e := prop.Props(p, c, frag); e != api.OK || !same(got, want) {
			t.Errorf("%v of %v, %v: %v, %v, not %v", frag, p, c, got, e, want)
		}
		readers := append(readersByRule(p, frag), spot{})
		isRead(t, p, frag, readers[0].frag, readers[0].place, len(readers) > 1)
	}
	columns(t, p, api.OK, lastOf(must(kindsByRule(lastOf(p.Frags).Nodes)))...)
	frag, place, e = soundByRule(p, c)
	if f, k, err := prop.Sound(p, c); f != frag || k != place || err != e {
		t.Errorf("%v, %v: %v at %v, %v, not %v at %v, %v", p, c, err, f, k, e, frag, place)
	}
	return e
}

// P18.1 to P18.5: plans of chance, and such with something changed in them.
func TestByRule(t *testing.T) {
	m := newMaker(181)
	seen, ops, ways, lengths := map[api.Errno]int{}, map[int]int{}, map[int]int{}, map[int]int{}
	for range 3000 {
		p := m.newPlan(8)
		c := m.catalog
		if e := isRuled(t, p, c); e != api.OK && e != api.ErrSound {
			t.Errorf("%v, %v: %v", p, c, e)
		}
		for _, f := range p.Frags {
			for _, n := range f.Nodes {
				ops[n.Op+100*f.At]++
			}
			ways[f.Way+100*f.At]++
		}
		lengths[len(p.Frags)]++
		for range 3 {
			if len(p.Frags) > 0 {
				p = m.changed(p)
				seen[isRuled(t, p, c)]++
			}
		}
	}
	for _, e := range []api.Errno{api.OK, api.ErrSound, api.ErrFrag, api.ErrPlan} {
		if seen[e] < 150 {
			t.Error(seen)
		}
	}
	if len(ops) != 11+10 || len(ways) != 3+4 || len(lengths) < 8 { // no scan is AtOne, no WayRoot AtAll
		t.Error(ops, ways, lengths)
	}
}

// P18.1: of trees Kinds says what Check and Kinds of trees (13) say.
func TestAsTrees(t *testing.T) {
	m := newMaker(182)
	seen := map[api.Errno]int{}
	for range 6000 {
		p := m.newPlan(8)
		for range m.Intn(3) {
			if len(p.Frags) > 0 {
				p = m.changed(p)
			}
		}
		for _, f := range p.Frags {
			if slices.ContainsFunc(f.Nodes, func(n api.LNode) bool { return n.Op > api.LSort }) {
				continue
			}
			l := api.Logic{Nodes: f.Nodes}
			want, e := logic.Check(l)
			seen[e]++
			if e != api.OK {
				mayNot(t, want, f.Nodes)
				continue
			}
			kinds, _ := logic.Kinds(l)
			mayBe(t, f.Nodes, kinds...)
		}
	}
	if seen[api.OK] < 1000 || seen[api.ErrLogic] < 300 {
		t.Error(seen)
	}
}

// laid is a database of chance, laid over so many nodes.
func (m *maker) laid(nodes int, b api.Base) api.Layout {
	return right(place.Lay(m.catalog, b, nodes, []int{m.Intn(8), m.Intn(8), m.Intn(8)}))
}

// P18.6: rows lie as Props says, of plans that are sound, and of such as are not; those of scans where place lays them. And what is sound comes to the same at however many nodes, as at one, rows or a fault; of what is not sound some does not.
func TestLiesAndSoundComeTrue(t *testing.T) {
	m := newMaker(183)
	seen, hashes, rows := map[[2]bool]int{}, 0, 0
	for range 4000 {
		p := m.newPlan(7)
		_, _, e := prop.Sound(p, m.catalog)
		b := m.base()
		_, want, wantErr := started(p, m.laid(1, b))
		for range 2 {
			r, got, err := started(p, m.laid(2+m.Intn(4), b))
			if err == api.OK {
				hashes += r.nodesLie(t, m.catalog)
			}
			if err == api.ErrLong || wantErr == api.ErrLong {
				continue
			}
			alike := err == wantErr && right(row.Alike(got, want))
			seen[[2]bool{e == api.OK, alike}]++
			if e == api.OK && !alike {
				t.Errorf("%v, %v of %v: %v, %v, not %v, %v", p, m.catalog, b, got, err, want, wantErr)
			}
			if e == api.OK {
				rows += len(got)
			}
		}
	}
	if seen[[2]bool{true, true}] < 1000 || seen[[2]bool{false, false}] < 500 || hashes < 5000 || rows < 1500 {
		t.Error(seen, hashes, rows)
	}
}

// P18.6: a row's hash by Cols is, behind a projection or a group, the hash by the Cols that it has then.
func TestHashBehind(t *testing.T) {
	m := newMaker(184)
	times := 0
	for range 3000 {
		m.newCatalog()
		table := m.Intn(len(m.catalog.Tables))
		var r api.Row
		var kinds []int
		for _, c := range m.catalog.Tables[table].Columns {
			r, kinds = append(r, m.value(c.Kind)), append(kinds, c.Kind)
		}
		n := picked(m.places(6, len(r))...)
		if m.Intn(2) == 0 {
			n = m.groups(api.LGroup, kinds)
		}
		if len(n.Items)+len(n.Keys) == 0 {
			continue
		}
		f := onAll(api.WayGather, scan(table, kinds...), n)
		props := right(prop.Props(gathered(lastOf(must(kindsByRule(f.Nodes))), f), m.catalog, 0))
		if props[1].Kind != api.PropHashed {
			continue
		}
		cols := n.Keys
		for _, item := range n.Items {
			cols = append(cols, item.Nodes[0].Col)
		}
		behind := right(row.Take(r, cols))
		if right(row.Hash(r, props[0].Cols)) != right(row.Hash(behind, props[1].Cols)) {
			t.Errorf("%v by %v, %v by %v", r, props[0], behind, props[1])
		}
		times++
	}
	if times < 300 {
		t.Error(times)
	}
}

// P18.6: a scan's rows lie where place (17) lays them.
func TestScansLieAsPlaceLays(t *testing.T) {
	m := newMaker(185)
	hashed := 0
	for range 1000 {
		m.newCatalog()
		nodes := 1 + m.Intn(api.MaxSites)
		l := m.laid(nodes, m.base())
		for table, x := range m.catalog.Tables {
			var kinds []int
			for _, c := range x.Columns {
				kinds = append(kinds, c.Kind)
			}
			p := gathered(kinds, onAll(api.WayGather, scan(table, kinds...)))
			lies := right(prop.Props(p, m.catalog, 0))[0]
			if (lies.Kind == api.PropHashed) != (len(x.Keys) > 0) {
				t.Errorf("%v: %v", x, lies)
			}
			for node := 1; node <= nodes && lies.Kind == api.PropHashed; node++ {
				for _, r := range place.Rows(l, node, table) {
					if hashed++; 1+int(right(row.Hash(r, lies.Cols))%uint32(nodes)) != node {
						t.Errorf("%v of %v at %v of %v", r, x, node, nodes)
					}
				}
			}
		}
	}
	if hashed < 2000 {
		t.Error(hashed)
	}
}

// P18.6: AtOne each node is sound that is no LPartial.
func TestAtOneAllIsSound(t *testing.T) {
	m := newMaker(186)
	partials, times := 0, 0
	for range 3000 {
		p := m.newPlan(8)
		frag, at, e := prop.Sound(p, m.catalog)
		if e == api.OK || p.Frags[frag].At == api.AtAll {
			times++
			continue
		}
		if p.Frags[frag].Nodes[at].Op != api.LPartial {
			t.Errorf("%v: %v at %v", p, frag, at)
		}
		partials++
	}
	if partials < 5 || times < 1000 {
		t.Error(partials, times)
	}
}

// P18.6: no plan of one fragment may be.
func TestNoPlanOfOneFrag(t *testing.T) {
	m := newMaker(187)
	for range 2000 {
		p := m.newPlan(5)
		for _, f := range p.Frags {
			for _, at := range []int{api.AtAll, api.AtOne} {
				f.At, f.Way, f.Cols = at, api.WayRoot, nil
				if _, _, e := prop.Check(plan(f), m.catalog); e == api.OK {
					t.Errorf("%v may be", f)
				}
			}
		}
	}
}
