package exec_test

import (
	"slices"
	"testing"

	"bowsprit/api"
	"bowsprit/denote"
	"bowsprit/exec"
)

// isRuled holds what Run says of nodes against what is reckoned of them, and tells it.
func isRuled(t *testing.T, l []api.LNode, d data) api.Errno {
	t.Helper()
	want, e := runByRule(l, d)
	got, err := exec.Run(api.Frag{Nodes: l}, d.Tables, d.Inputs)
	if err != e || !same(got, want) {
		t.Errorf("%v of %v:\n%v, %v, not\n%v, %v", l, d, got, err, want, e)
	}
	return err
}

// P20.1: fragments of chance, and such with something changed, in them or in what is handed in.
func TestRunByRule(t *testing.T) {
	m := newMaker(201)
	seen, ops := map[api.Errno]int{}, map[int]int{}
	for range 4000 {
		m.newKinds()
		g, d := m.frag(6), m.data()
		e := isRuled(t, g.nodes, d)
		if seen[e]++; e == api.OK {
			for _, n := range g.nodes {
				ops[n.Op]++
			}
		}
		seen[isRuled(t, m.changed(g.nodes), d)]++
		seen[isRuled(t, g.nodes, m.spoiled(d))]++
	}
	for _, e := range []api.Errno{api.OK, api.ErrFrag, api.ErrArg, api.ErrFault, api.ErrOver} {
		if seen[e] < 200 {
			t.Error(seen)
		}
	}
	for op := api.LScan; op <= api.LFinal; op++ {
		if ops[op] < 300 {
			t.Error(ops)
		}
	}
}

// P20.2: nodes of chance over rows of chance, and such with something changed in them.
func TestPartialAndFinalByRule(t *testing.T) {
	m := newMaker(202)
	seen := map[[2]int]int{}
	holds := func(n api.LNode, rows []api.Row) {
		t.Helper()
		for op, c := range map[int]call{api.LPartial: exec.Partial, api.LFinal: exec.Final} {
			want, e := overByRule(op, n, rows)
			got, err := c(n, rows)
			if err != e || !same(got, want) {
				t.Errorf("%v of %v: %v, %v, not %v, %v", n, rows, got, err, want, e)
			}
			if n.Op == op {
				seen[[2]int{op, int(e)}]++
			}
		}
	}
	for range 8000 {
		m.newKinds()
		kinds := m.inputs[m.Intn(len(m.inputs))]
		n := m.ended(kinds)
		if !slices.Contains(kinds, ks) && m.Intn(2) == 0 {
			n = m.groups(api.LPartial, kinds)
		}
		rows := m.rows(m.Intn(9), kinds)
		holds(n, rows)
		holds(n, m.spoiledRows(rows))
		holds(m.changed([]api.LNode{n})[0], rows)
	}
	for _, op := range []int{api.LPartial, api.LFinal} {
		for _, e := range []api.Errno{api.OK, api.ErrArg, api.ErrFault} {
			if seen[[2]int{op, int(e)}] < 100 {
				t.Error(seen)
			}
		}
	}
}

// P20.3: fragments of chance, with Ways and Cols of chance, to nodes of chance, and rows.
func TestGoesByRule(t *testing.T) {
	m := newMaker(203)
	seen := map[api.Errno]int{}
	for range 4000 {
		m.newKinds()
		g := m.frag(4)
		f := api.Frag{Nodes: g.nodes, At: m.Intn(4), Way: 1 + m.Intn(4)}
		if f.Way == api.WayShuffle {
			for range 1 + m.Intn(3) {
				f.Cols = append(f.Cols, m.Intn(len(g.kinds)))
			}
		}
		rows, nodes := m.rows(m.Intn(12), g.kinds), 1+m.Intn(api.MaxSites)
		holds := func(f api.Frag, rows []api.Row, nodes int) {
			t.Helper()
			isGone(t, f, rows, nodes)
			_, e := goesByRule(f, rows, nodes)
			seen[e]++
		}
		holds(f, rows, nodes)
		holds(f, m.spoiledRows(rows), nodes)
		holds(f, rows, m.Intn(12)-1)
		f.Way = m.Intn(7) - 1
		holds(f, rows, nodes)
		f.Cols = append(slices.Clone(f.Cols), m.Intn(9)-1)
		holds(f, rows, nodes)
		f.Nodes = m.changed(f.Nodes)
		holds(f, rows, nodes)
	}
	for _, e := range []api.Errno{api.OK, api.ErrFrag, api.ErrArg} {
		if seen[e] < 1000 {
			t.Error(seen)
		}
	}
}

// P20.4: a fragment of a tree's nodes comes to what the tree does, if it is not too much; so does one that reads the tables' rows as inputs.
func TestTreesComeToTheSame(t *testing.T) {
	m := newMaker(204)
	seen := map[api.Errno]int{}
	for range 4000 {
		m.newKinds()
		l := m.tree(7, false).nodes
		var b api.Base
		for _, kinds := range m.tables {
			b.Tables = append(b.Tables, m.rows(m.Intn(api.MaxTable+1), kinds))
		}
		want, wantErr := denote.Rows(api.Logic{Nodes: l}, b)
		got, e := exec.Run(api.Frag{Nodes: l}, b.Tables, nil)
		if seen[e]++; e == api.ErrOver {
			continue
		}
		if e != wantErr || !same(got, want) {
			t.Errorf("%v of %v:\n%v, %v, not\n%v, %v", l, b, got, e, want, wantErr)
		}
		read := slices.Clone(l)
		for k, n := range l {
			if n.Op == api.LScan {
				read[k].Op = api.LInput
			}
		}
		isRun(t, read, reads(b.Tables...), want, wantErr)
	}
	if seen[api.OK] < 2000 || seen[api.ErrFault] < 100 || seen[api.ErrOver] < 20 || len(seen) != 3 {
		t.Error(seen)
	}
}

// cut are parts of rows, as chance has it, some of which may be empty.
func (m *maker) cut(rows []api.Row) [][]api.Row {
	l := make([][]api.Row, 1+m.Intn(5))
	for _, r := range rows {
		k := m.Intn(len(l))
		l[k] = append(l[k], r)
	}
	return l
}

// together are rows of several lists, in whatever order.
func (m *maker) together(l [][]api.Row) []api.Row {
	rows := slices.Concat(l...)
	m.Shuffle(len(rows), func(a, b int) { rows[a], rows[b] = rows[b], rows[a] })
	return rows
}

// P20.4: whatever the parts: partial aggregates of each, put together, are the aggregates of all; these fault just if one of the parts does, or their end.
func TestPartsOfAggregates(t *testing.T) {
	m := newMaker(205)
	seen, ends, none, finals := map[api.Errno]int{}, 0, 0, 0
	for range 6000 {
		kinds := m.kinds(1+m.Intn(3), kn, kb, ki, ki, ki, kt)
		rows, n := m.rows(m.Intn(14), kinds), m.groups(api.LPartial, kinds)
		whole := n
		whole.Op = api.LGroup
		want, wantErr := exec.Run(frag(input(0, kinds...), whole), nil, [][]api.Row{rows})
		seen[wantErr]++
		half := frag(input(0, kinds...), n)
		var l [][]api.Row
		e := api.OK
		for _, part := range m.cut(rows) {
			came, err := exec.Run(half, nil, [][]api.Row{part})
			if err != api.OK {
				e = err
			}
			if own, e := exec.Partial(n, part); len(part) > 0 && (e != err || !same(own, came)) {
				t.Errorf("%v of %v: %v, %v, not %v, %v", n, part, own, e, came, err)
			}
			l = append(l, came)
		}
		if e != api.OK {
			if wantErr != e {
				t.Errorf("%v of %v: %v, not %v", n, rows, e, wantErr)
			}
			continue
		}
		halves := m.together(l)
		if len(halves) == 0 {
			none++
		}
		own, _ := over(n, growing{nodes: []api.LNode{input(0, kinds...)}})
		end := frag(input(0, own.kinds...), finalOf(n))
		got, e := exec.Run(end, nil, [][]api.Row{halves})
		if e != wantErr || !same(got, want) {
			t.Errorf("%v of %v, by %v: %v, %v, not %v, %v", n, rows, halves, got, e, want, wantErr)
		}
		if e == api.ErrFault {
			ends++
		}
		if len(halves) > 0 && slices.Equal(kindsByRule(halves), own.kinds) {
			finals++
			if got, e := exec.Final(finalOf(n), halves); e != wantErr || !same(got, want) {
				t.Errorf("%v of %v: Final says %v, %v, not %v, %v", n, halves, got, e, want, wantErr)
			}
		}
	}
	if seen[api.OK] < 3000 || seen[api.ErrFault] < 150 || len(seen) != 2 || ends < 15 || none < 50 || finals < 2000 {
		t.Error(seen, ends, none, finals)
	}
}

// P20.4: rows sorted and cut in parts, put together, sorted and cut, are those of all, sorted and cut.
func TestPartsOfSorts(t *testing.T) {
	m := newMaker(206)
	cuts := 0
	for range 4000 {
		kinds := m.kinds(1+m.Intn(4), kn, kb, ki, ki, kt)
		rows := m.rows(m.Intn(40), kinds)
		f := frag(input(0, kinds...), m.sort(len(kinds)))
		run := func(rows []api.Row) []api.Row {
			l, e := exec.Run(f, nil, [][]api.Row{rows})
			if e != api.OK {
				t.Fatal(f, rows, e)
			}
			return l
		}
		var l [][]api.Row
		for _, part := range m.cut(rows) {
			l = append(l, run(part))
		}
		want := run(rows)
		if got := run(m.together(l)); !same(got, want) {
			t.Errorf("%v of %v: %v, not %v", f, rows, got, want)
		}
		if len(want) < len(rows) {
			cuts++
		}
	}
	if cuts < 1000 {
		t.Error(cuts)
	}
}

// P20.4: what goes by the hash goes to just one node, and rows with the same columns to the same; a node has them in the order in which they stood.
func TestGoesTogether(t *testing.T) {
	m := newMaker(207)
	together, apart := 0, 0
	for range 3000 {
		kinds := m.kinds(1+m.Intn(4), kn, kb, ki, ki, kt, ks)
		rows := m.rows(m.Intn(30), kinds)
		f := goes(kinds, api.WayShuffle)
		for range 1 + m.Intn(4) {
			f.Cols = append(f.Cols, m.Intn(len(kinds)))
		}
		l, e := exec.Goes(f, rows, 1+m.Intn(api.MaxSites))
		if e != api.OK {
			t.Fatal(f, rows, e)
		}
		if !same(sortedByRule(slices.Concat(l...)), sortedByRule(rows)) {
			t.Errorf("%v of %v: %v", f, rows, l)
		}
		places := map[[4]api.Value]int{} // of the columns: the node, and 1 more
		for node, part := range l {
			last := -1
			for _, r := range part {
				var columns [4]api.Value
				for k, c := range f.Cols {
					columns[k] = r[c]
				}
				if was := places[columns]; was != 0 && was != node+1 {
					t.Errorf("%v of %v: %v at %v and %v", f, rows, columns, was-1, node)
				} else if was != 0 {
					together++
				}
				places[columns] = node + 1
				at := last + 1 + slices.IndexFunc(rows[last+1:], func(x api.Row) bool { return slices.Equal(x, r) })
				if at == last {
					t.Errorf("%v of %v: %v stands behind what came behind it", f, rows, r)
				}
				last = at
			}
			if len(part) > 0 && len(part) < len(rows) {
				apart++
			}
		}
	}
	if together < 3000 || apart < 3000 {
		t.Error(together, apart)
	}
}

// R1: whatever is handed in, each call ends.
func TestWhatever(t *testing.T) {
	m := newMaker(208)
	for range 3000 {
		m.newKinds()
		l := m.frag(5).nodes
		for range m.Intn(5) {
			l = m.changed(l)
		}
		d := m.data()
		for range m.Intn(3) {
			if len(d.Tables) > 0 && len(d.Inputs) > 0 {
				d = m.spoiled(d)
			}
		}
		var rows []api.Row
		if len(d.Inputs) > 0 {
			rows = m.spoiledRows(d.Inputs[0])
		}
		g := given{api.Frag{Nodes: l, Cols: []int{m.Intn(5) - 1}}, l[len(l)-1], d, rows}
		for _, call := range calls() {
			if a := call(g); a.Err != api.OK && len(a.Rows)+len(a.Lists)+len(a.Tables) > 0 {
				t.Errorf("%v: %v", g, a)
			}
		}
	}
}
