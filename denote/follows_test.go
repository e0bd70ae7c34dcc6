package denote_test

import (
	"slices"
	"testing"

	"bowsprit/api"
	"bowsprit/denote"
	"bowsprit/logic"
)

// P15.2: whatever the tree and the database, it comes to what the operators' definitions say, or faults, or is too long.
func TestByRule(t *testing.T) {
	seen := map[api.Errno]int{}
	ops := map[int]int{}
	rows := 0
	for seed := range int64(100) {
		m := newMaker(seed, int(1+seed%3))
		for range 40 {
			l, _ := m.query()
			if _, e := logic.Check(l); e != api.OK {
				t.Fatal(l, e)
			}
			b := m.base()
			got, e := ruled(t, l, b)
			seen[e]++
			if rows += len(got); e == api.OK && len(got) > 0 {
				ops[l.Nodes[len(l.Nodes)-1].Op]++
			}
		}
	}
	if seen[api.OK] < 1000 || seen[api.ErrFault] < 200 || rows < 4000 {
		t.Error(seen, rows)
	}
	for op := api.LScan; op <= api.LSort; op++ {
		if ops[op] < 20 {
			t.Error(op, ops)
		}
	}
}

// P15.4: as many columns as the tree has, of its kinds, or null.
func TestKindsOfRows(t *testing.T) {
	count := 0
	for seed := range int64(80) {
		m := newMaker(seed, 4)
		for range 40 {
			l, _ := m.query()
			kinds, e := logic.Kinds(l)
			if e != api.OK {
				t.Fatal(l, e)
			}
			rows, _ := denote.Rows(l, m.base())
			for _, r := range rows {
				if !slices.EqualFunc(r, kinds, func(v api.Value, kind int) bool { return v == null || v.Kind == kind }) {
					t.Errorf("%v: %v, of %v", l, r, kinds)
				}
				count++
			}
		}
	}
	if count < 5000 {
		t.Error(count)
	}
}

// P15.4: it is the same of tables whose rows stand in another order, and of whatever stands in tables that no scan asks for.
func TestHangsOnScannedTables(t *testing.T) {
	for seed := range int64(40) {
		m := newMaker(seed, 4)
		for range 20 {
			l, _ := m.query()
			b := m.base()
			want, e := denote.Rows(l, b)
			other := copyOf(b)
			for k, rows := range other.Tables {
				m.Shuffle(len(rows), func(a, b int) { rows[a], rows[b] = rows[b], rows[a] })
				if !slices.Contains(logic.Tables(l), k) {
					other.Tables[k] = m.rows([]int{api.VInt, api.VText, api.VNull}, 20)
				}
			}
			if tables := logic.Tables(l); m.Intn(2) == 0 {
				other.Tables = other.Tables[:tables[len(tables)-1]+1]
			}
			got, again := denote.Rows(l, other)
			if again != e || !same(got, want) {
				t.Errorf("%v\n%v: %v, %v\n%v: %v, %v", l, b, e, want, other, again, got)
			}
		}
	}
}

// isPart tells whether each row stands in a list as often as in another one, at least.
func isPart(l, all []api.Row) bool {
	often := func(l []api.Row, r api.Row) int {
		count := 0
		for _, x := range l {
			if slices.Equal(x, r) {
				count++
			}
		}
		return count
	}
	return !slices.ContainsFunc(l, func(r api.Row) bool { return often(l, r) > often(all, r) })
}

// P15.4: a filter has no rows but its part's; distinct each of them once; a sort as many, up to the limit.
func TestWhatTheyLeave(t *testing.T) {
	count := 0
	for seed := range int64(40) {
		m := newMaker(seed, 6)
		for range 25 {
			l, kinds := m.tree(m.Intn(4))
			b := m.base()
			all, e := denote.Rows(l, b)
			if e != api.OK || len(all) > 300 {
				continue
			}
			count += len(all)
			left, e := denote.Rows(tree(filter(m.cond(kinds)), l), b)
			if e == api.OK && (len(left) > len(all) || !isPart(left, all)) || e != api.OK && e != api.ErrFault {
				t.Errorf("%v: %v of %v", l, left, all)
			}
			once, e := denote.Rows(tree(distinct(), l), b)
			if e != api.OK || !isPart(once, all) {
				t.Errorf("%v: %v of %v", l, once, all)
			}
			for k, r := range all {
				if k > 0 && slices.Equal(all[k-1], r) {
					continue
				}
				if !isPart([]api.Row{r}, once) || isPart([]api.Row{r, r}, once) {
					t.Errorf("%v: %v of %v", l, once, all)
				}
			}
			n := m.sort(len(kinds))
			sorted, e := denote.Rows(tree(n, l), b)
			want := len(all)
			if n.Limit >= 0 {
				want = min(want, n.Limit)
			}
			if e != api.OK || len(sorted) != want || !isPart(sorted, all) {
				t.Errorf("%v: %v of %v", l, sorted, all)
			}
			isRows(t, sorted)(denote.Sort(all, n.Order, n.Limit))
		}
	}
	if count < 1000 {
		t.Error(count)
	}
}

// P15.4: what is safe does not fault.
func TestSafe(t *testing.T) {
	seen := map[bool]int{}
	faults := map[bool]int{}
	for seed := range int64(100) {
		m := newMaker(seed, int(1+seed%8))
		for range 40 {
			l, _ := m.query()
			safe := logic.Safe(l)
			_, e := denote.Rows(l, m.base())
			if seen[safe]++; e == api.ErrFault {
				faults[safe]++
			}
			if safe && e == api.ErrFault {
				t.Errorf("%v faults", l)
			}
		}
	}
	if seen[true] < 500 || seen[false] < 500 || faults[false] < 60 {
		t.Error(seen, faults)
	}
}

// P15.3, P15.4: an operator's rows are those that Aggregate comes to of groups, and in whatever order these are handed in.
func TestAggregateByRule(t *testing.T) {
	m := newMaker(152, 2)
	faults := 0
	for range 4000 {
		kinds := m.tables[m.Intn(len(m.tables))]
		rows := m.rows(kinds, 8)
		n, _ := m.group(kinds)
		for _, a := range n.Aggs {
			want, ok := aggByRule(a, rows)
			if !ok {
				faults++
				isNot(t, api.ErrFault)(denote.Aggregate(a, rows))
				continue
			}
			is(t, want)(denote.Aggregate(a, rows))
			m.Shuffle(len(rows), func(a, b int) { rows[a], rows[b] = rows[b], rows[a] })
			is(t, want)(denote.Aggregate(a, rows))
		}
	}
	if faults < 50 {
		t.Error(faults)
	}
}
