package place_test

import (
	"slices"
	"testing"

	"bowsprit/api"
	"bowsprit/place"
)

// P17.3: the chapter's example, and some beside it, written out: each table sorted, whichever parts its rows stand in.
func TestGatherKnown(t *testing.T) {
	c := chapters()
	for _, l := range []api.Layout{
		layout(base(nil, list("1 / 3")), base(nil, list("2"))),
		layout(base(nil, list("2")), base(nil, list("1 / 3"))),
		layout(base(nil, list("3 / 2")), base(nil, nil), base(nil, list("1"))),
		layout(base(nil, list("2 / 3 / 1"))),
	} {
		is(t, base(nil, list("1 / 2 / 3")))(place.Gather(c, l))
	}
	alike := layout(base(list("NULL"), list("1 / 1 / NULL")), base(list("1 / 1"), list("2 / 1")))
	is(t, base(list("NULL / 1 / 1"), list("NULL / 1 / 1 / 1 / 2")))(place.Gather(c, alike))
	anyhow := cat(tab("u", "a int"))
	is(t, base(list("NULL / NULL / 1 / 1 / 1 / 1 / 2")))(place.Gather(anyhow, layout(base(list("1 / 1 / NULL")), base(list("2 / 1")), base(list("NULL / 1")))))
	is(t, base(list("NULL / -1 / 0 / 9")))(place.Gather(anyhow, layout(base(list("9")), base(list("0 / NULL")), base(list("-1")))))
	is(t, base())(place.Gather(cat(), layout(base(), base(), base())))
	is(t, base(nil, nil))(place.Gather(c, bare(c, 8)))
}

// P17.3: what does not obey, by one row of one table, is not gathered.
func TestGatherOfWhatDoesNotObey(t *testing.T) {
	c := chapters()
	for _, l := range []api.Layout{
		layout(base(list("1"), nil), base(nil, nil)),
		layout(base(nil, list("1")), base(list("1 / NULL"), nil)),
		layout(base(list("NULL / 1"), nil), base(list("1"), list("2"))),
	} {
		isNone[api.Base](t, api.ErrScheme)(place.Gather(c, l))
		free := cat(tab("t", "a int"), tab("u", "b int"))
		is(t, gatherByRule(free, l))(place.Gather(free, l))
	}
}

// P17.3: MaxTable rows of each of MaxTables tables, at each count of nodes, in several orders.
func TestGatherFull(t *testing.T) {
	c := several()
	for _, nodes := range counts {
		for _, spread := range spreads(12) {
			b := fullBase(c, 12)
			want := sortedByRule(b)
			for _, rows := range b.Tables {
				slices.Reverse(rows)
			}
			is(t, want)(place.Gather(c, layByRule(c, b, nodes, spread)))
		}
	}
}

// P17.3: the rows of each table at each node, as they stand; nothing of no node, of no table.
func TestRows(t *testing.T) {
	for _, c := range catalogs() {
		for _, nodes := range counts {
			l := layByRule(c, fullBase(c, 11), nodes, []int{4, 0, 2})
			for node := 1; node <= nodes; node++ {
				for table := range c.Tables {
					if got := place.Rows(l, node, table); !same(got, l.Parts[node-1].Tables[table]) {
						t.Errorf("%v at %v of %v: %v", table, node, l, got)
					}
				}
				for _, table := range nowhere(len(c.Tables)) {
					if got := place.Rows(l, node, table); len(got) != 0 {
						t.Errorf("%v at %v: %v", table, node, got)
					}
				}
			}
			for _, node := range append(nowhere(nodes+1), 0) {
				for _, table := range append(nowhere(len(c.Tables)), 0, 1, 2, 3) {
					if got := place.Rows(l, node, table); len(got) != 0 {
						t.Errorf("%v at %v: %v", table, node, got)
					}
				}
			}
		}
	}
}

// P17.3: written out: nodes are counted from 1 on, tables from 0 on.
func TestRowsKnown(t *testing.T) {
	l := layout(base(list("1"), list("1 / 3")), base(nil, list("2")))
	for _, x := range []struct {
		node, table int
		want        string
	}{{1, 0, "1"}, {1, 1, "1 / 3"}, {2, 0, ""}, {2, 1, "2"}, {0, 0, ""}, {0, 1, ""}, {3, 0, ""}, {3, 1, ""}, {-1, 1, ""}, {1, 2, ""}, {1, -1, ""}, {2, 2, ""}, {2, -1, ""}} {
		if got := place.Rows(l, x.node, x.table); !same(got, list(x.want)) {
			t.Errorf("%v at %v: %v", x.table, x.node, got)
		}
	}
}

// P17.3: of a layout that may not be there are those rows that stand there.
func TestRowsOfNoLayout(t *testing.T) {
	wrong := []api.Row{nil, {api.Value{N: 1}}, make(api.Row, 100), one("1 'a'")}
	l := layout(base(), base(wrong), base(nil, counted(100), list("1")), api.Base{}, base(nil, nil, nil, nil, nil, nil, list("7")))
	l.Parts = append(l.Parts, slices.Repeat([]api.Base{base(list("2"))}, 20)...)
	for node := -1; node < 40; node++ {
		for table := -1; table < 10; table++ {
			var want []api.Row
			if node >= 1 && node <= len(l.Parts) && table >= 0 && table < len(l.Parts[node-1].Tables) {
				want = l.Parts[node-1].Tables[table]
			}
			if got := place.Rows(l, node, table); !same(got, want) {
				t.Errorf("%v at %v: %v, not %v", table, node, got, want)
			}
		}
	}
	for _, n := range []int{-1, 0, 1, 2} {
		if got := place.Rows(api.Layout{}, n, n); len(got) != 0 {
			t.Error(got)
		}
	}
}
