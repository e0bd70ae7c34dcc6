package place_test

import (
	"math/rand"
	"slices"
	"strings"
	"testing"

	"bowsprit/api"
	"bowsprit/denote"
	"bowsprit/place"
)

// maker makes catalogs, databases, spreads and layouts by chance.
type maker struct {
	*rand.Rand
}

func newMaker(seed int64) maker {
	return maker{rand.New(rand.NewSource(seed))}
}

func (m maker) catalog() api.Catalog {
	var c api.Catalog
	for k := range m.Intn(api.MaxTables + 1) {
		t := tab(string(rune('t'+k)), "")
		for at := range 1 + m.Intn(api.MaxColumns) {
			t.Columns = append(t.Columns, api.Column{Name: string(rune('a' + at)), Kind: api.VBool + m.Intn(3)})
			if m.Intn(3) == 0 {
				t.Keys = append(t.Keys, at)
			}
		}
		c.Tables = append(c.Tables, t)
	}
	return c
}

func (m maker) value(kind int) api.Value {
	switch {
	case m.Intn(5) == 0:
		return null
	case kind == api.VBool:
		return api.Value{Kind: kind, N: int64(m.Intn(2))}
	case kind == api.VInt && m.Intn(4) == 0:
		return number(int64(m.Uint64()))
	case kind == api.VInt:
		return number(int64(m.Intn(7) - 2))
	}
	return text(strings.Repeat(string(rune('a'+m.Intn(3))), m.Intn(3)))
}

func (m maker) row(t api.Table) api.Row {
	var r api.Row
	for _, column := range t.Columns {
		r = append(r, m.value(column.Kind))
	}
	return r
}

func (m maker) base(c api.Catalog) api.Base {
	var b api.Base
	for _, t := range c.Tables {
		var rows []api.Row
		for range m.Intn(api.MaxTable + 1) {
			if len(rows) > 0 && m.Intn(4) == 0 {
				rows = append(rows, rows[m.Intn(len(rows))])
			} else {
				rows = append(rows, m.row(t))
			}
		}
		b.Tables = append(b.Tables, rows)
	}
	return b
}

func (m maker) spread() []int {
	var l []int
	for range m.Intn(16) {
		if m.Intn(4) == 0 {
			l = append(l, int(m.Uint64()))
		} else {
			l = append(l, m.Intn(20)-10)
		}
	}
	return l
}

// strewn is a database laid without heed of the scheme: a layout that may be, and may not obey.
func (m maker) strewn(c api.Catalog, b api.Base, nodes int) api.Layout {
	l := bare(c, nodes)
	for table, rows := range b.Tables {
		for _, r := range rows {
			to := &l.Parts[m.Intn(nodes)].Tables[table]
			*to = append(*to, r)
		}
	}
	return l
}

// P17.2, P17.5: what Lay lays obeys, and gathers to the database, sorted.
func TestLaidObeysAndGathers(t *testing.T) {
	m := newMaker(171)
	rows := 0
	for range 6000 {
		c := m.catalog()
		b, spread, nodes := m.base(c), m.spread(), 1+m.Intn(api.MaxSites)
		l, e := place.Lay(c, b, nodes, spread)
		is(t, layByRule(c, b, nodes, spread))(l, e)
		if e := place.Check(c, l); e != api.OK {
			t.Errorf("%v, %v: %v", c, l, e)
		}
		is(t, true)(place.Obeys(c, l))
		got, e := place.Gather(c, l)
		is(t, sortedByRule(b))(got, e)
		if e := denote.CheckBase(c, got); e != api.OK {
			t.Error(c, got, e)
		}
		again, e := place.Lay(c, got, nodes, spread)
		if e != api.OK {
			t.Fatal(e)
		}
		is(t, got)(place.Gather(c, again))
		for _, l := range b.Tables {
			rows += len(l)
		}
	}
	if rows < 50000 {
		t.Error(rows)
	}
}

// P17.5: whatever moves without Keys gathers to the same; so does what moves behind the others at its own node.
func TestMovedGathersToTheSame(t *testing.T) {
	m := newMaker(172)
	seen := map[api.Errno]int{}
	for range 400 {
		c := m.catalog()
		b, nodes := m.base(c), 1+m.Intn(api.MaxSites)
		want := sortedByRule(b)
		l, e := place.Lay(c, b, nodes, m.spread())
		if e != api.OK {
			t.Fatal(e)
		}
		for range 60 {
			table, from, at, to := m.Intn(api.MaxTables+1), m.Intn(nodes+2), m.Intn(5)-1, m.Intn(nodes+2)
			moves(t, c, l, table, from, at, to)
			next, e := place.Move(c, l, table, from, at, to)
			seen[e]++
			if e != api.OK {
				continue
			}
			if len(c.Tables[table].Keys) > 0 && to != from {
				t.Errorf("%v of %v went from %v to %v", table, c, from, to)
			}
			says(t, api.OK, c, next)
			is(t, want)(place.Gather(c, next))
			l = next
		}
	}
	for _, e := range []api.Errno{api.OK, api.ErrArg, api.ErrScheme} {
		if seen[e] < 300 {
			t.Error(seen)
		}
	}
}

// P17.5: at each node there are just the rows that Where says, of tables with Keys; of one without it says 0 of all.
func TestRowsAreWhereWhereSays(t *testing.T) {
	m := newMaker(173)
	for range 2500 {
		c := m.catalog()
		b, nodes := m.base(c), 1+m.Intn(api.MaxSites)
		l, e := place.Lay(c, b, nodes, m.spread())
		if e != api.OK {
			t.Fatal(e)
		}
		for table, x := range c.Tables {
			want := make([][]api.Row, nodes+1)
			for _, r := range b.Tables[table] {
				node, e := place.Where(c, table, r, nodes)
				if e != api.OK || node != nodeByRule(x, r, nodes) {
					t.Fatalf("%v of %v: %v, %v", r, x, node, e)
				}
				want[node] = append(want[node], r)
			}
			if len(x.Keys) == 0 {
				if !same(want[0], b.Tables[table]) {
					t.Errorf("%v: %v", x, want)
				}
				continue
			}
			for node := range want {
				if got := place.Rows(l, node, table); !same(got, want[node]) {
					t.Errorf("%v at %v: %v, not %v", x, node, got, want[node])
				}
			}
		}
	}
}

// P17.5: what obeys for one node is any database, and no other one.
func TestOneNode(t *testing.T) {
	m := newMaker(174)
	for range 3000 {
		c := m.catalog()
		b := m.base(c)
		is(t, layout(b))(place.Lay(c, b, 1, m.spread()))
		says(t, api.OK, c, layout(b))
		is(t, sortedByRule(b))(place.Gather(c, layout(b)))
		if len(c.Tables) == 0 {
			continue
		}
		table := m.Intn(len(c.Tables))
		for _, r := range []api.Row{append(m.row(c.Tables[table]), null), with(m.row(c.Tables[table]), 0, valueOf[api.VSum])} {
			wrong := base(with(b.Tables, table, []api.Row{r})...)
			if e := denote.CheckBase(c, wrong); e != api.ErrBase {
				t.Error(c, wrong, e)
			}
			says(t, api.ErrLayout, c, layout(wrong))
		}
	}
}

// P17.1, P17.3: layouts whose rows lie where chance put them: some obey, some do not, some may not be.
func TestStrewn(t *testing.T) {
	m := newMaker(175)
	seen := map[api.Errno]int{}
	for range 20000 {
		c := m.catalog()
		l := m.strewn(c, m.base(c), 1+m.Intn(3))
		switch m.Intn(6) {
		case 0:
			l.Parts = append(l.Parts, bare(c, m.Intn(8)).Parts...)
		case 1:
			l.Parts = append(l.Parts, m.base(c))
		case 2:
			l.Parts = append(l.Parts, m.base(m.catalog()))
		}
		seen[isAsByRule(t, c, l)]++
	}
	for _, e := range []api.Errno{api.OK, api.ErrScheme, api.ErrLayout} {
		if seen[e] < 2000 {
			t.Error(seen)
		}
	}
}

// P17.1: Same of layouts of chance, of which some differ in one thing.
func TestSameByRule(t *testing.T) {
	m := newMaker(176)
	seen := map[bool]int{}
	for range 5000 {
		c := m.catalog()
		b := m.base(c)
		a := m.strewn(c, b, 1+m.Intn(3))
		other := copyOf(a)
		switch at := m.Intn(len(a.Parts)); m.Intn(4) {
		case 0:
			other = m.strewn(c, b, len(a.Parts))
		case 1:
			for _, rows := range other.Parts[at].Tables {
				slices.Reverse(rows)
			}
		case 2:
			for k, rows := range other.Parts[at].Tables {
				if len(rows) > 0 {
					rows[m.Intn(len(rows))] = m.row(c.Tables[k])
				}
			}
		}
		want := same(a, other)
		if got := place.Same(a, other); got != want || place.Same(other, a) != want {
			t.Errorf("%v, %v: %v", a, other, got)
		}
		seen[want]++
	}
	if seen[true] < 1000 || seen[false] < 1000 {
		t.Error(seen)
	}
}
