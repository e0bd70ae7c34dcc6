package place_test

import (
	"math"
	"slices"
	"testing"

	"bowsprit/api"
	"bowsprit/place"
)

// P17.2: the chapter's examples, and some beside them, written out.
func TestLayKnown(t *testing.T) {
	c := chapters()
	cases := []struct {
		rows   string
		nodes  int
		spread []int
		want   []string
	}{
		{"1 / 2 / 3", 2, nil, []string{"1 / 3", "2"}},
		{"1 / 2 / 3", 2, []int{-1, 0}, []string{"2", "1 / 3"}},
		{"1 / 2 / 3", 2, []int{}, []string{"1 / 3", "2"}},
		{"1 / 2 / 3", 1, []int{5, -5}, []string{"1 / 2 / 3"}},
		{"1 / 2 / 3", 3, nil, []string{"1", "2", "3"}},
		{"1 / 2 / 3", 8, nil, []string{"1", "2", "3", "", "", "", "", ""}},
		{"3 / 1 / 2 / 1", 3, nil, []string{"3 / 1", "1", "2"}},
		{"3 / 1 / 2 / 1", 2, []int{1}, []string{"", "3 / 1 / 2 / 1"}},
		{"3 / 1 / 2 / 1", 3, []int{0, 2, 1}, []string{"3 / 1", "2", "1"}},
		{"3 / 1 / 2 / 1", 3, []int{3, 5, 4, 2}, []string{"3", "2", "1 / 1"}},
		{"3 / 1 / 2 / 1", 3, []int{0, 0, 1, 1, 2, 2}, []string{"3 / 1", "2 / 1", ""}},
		{"1 / 2 / 3 / 4 / 5", 3, []int{-1, -2, -3, -4, -5}, []string{"3", "2 / 5", "1 / 4"}},
		{"NULL / NULL / NULL", 2, nil, []string{"NULL / NULL", "NULL"}},
		{"1 / 2", 7, []int{math.MinInt64, math.MaxInt64}, []string{"2", "", "", "", "", "", "1"}},
		{"", 2, []int{1}, []string{"", ""}},
	}
	for _, x := range cases {
		want := bare(c, x.nodes)
		for k, rows := range x.want {
			want.Parts[k].Tables[1] = list(rows)
		}
		is(t, want)(place.Lay(c, base(nil, list(x.rows)), x.nodes, x.spread))
	}
}

// P17.2: written out: 1 lies at the last of 8 nodes, null at the fifth one, whatever spread says; in the order of the table.
func TestLayBySchemeKnown(t *testing.T) {
	c := cat(tab("t", "a int b int", 0))
	b := base(list("1 9 / NULL 8 / 1 7 / NULL 8 / 1 1"))
	for _, spread := range spreads(5) {
		want := bare(c, 8)
		want.Parts[7].Tables[0] = list("1 9 / 1 7 / 1 1")
		want.Parts[4].Tables[0] = list("NULL 8 / NULL 8")
		is(t, want)(place.Lay(c, b, 8, spread))
		is(t, layout(base(list("NULL 8 / NULL 8")), base(list("1 9 / 1 7 / 1 1"))))(place.Lay(c, b, 2, spread))
		is(t, layout(b))(place.Lay(c, b, 1, spread))
	}
}

// spreads are spreads for a table of so many rows: empty ones, shorter ones, such as are as long, longer ones; of numbers below 0, at nodes, above, at both ends of the range.
func spreads(rows int) [][]int {
	ends := []int{math.MinInt, math.MaxInt, math.MinInt + 1, math.MaxInt - 1, math.MinInt + 7, math.MaxInt - 7, -1, 0}
	l := [][]int{nil, {}, {0}, {1}, {7}, {-1}, {-8, 8}, {2, 3, 7, 8}, {-7, -3, -2, -1}, ends, {math.MinInt}, {math.MaxInt}}
	for _, length := range []int{rows - 1, rows, rows + 1, 2*rows + 3} {
		var up, down []int
		for k := range length {
			up, down = append(up, k*k), append(down, -k)
		}
		l = append(l, up, down)
	}
	return append(l, make([]int, 1000), slices.Repeat([]int{-5, 9}, 500))
}

// fullBase is a database of a catalog, each of whose tables has so many rows.
func fullBase(c api.Catalog, rows int) api.Base {
	b := base()
	for _, x := range c.Tables {
		b.Tables = append(b.Tables, rowsOf(x)[:rows])
	}
	return b
}

// P17.2: over all catalogs, counts and spreads: several tables without Keys each begin with spread anew.
func TestLayByRule(t *testing.T) {
	for _, c := range catalogs() {
		for rows := range api.MaxTable + 1 {
			b := fullBase(c, rows)
			for nodes := 1; nodes <= api.MaxSites; nodes++ {
				for _, spread := range spreads(rows) {
					is(t, layByRule(c, b, nodes, spread))(place.Lay(c, b, nodes, spread))
				}
			}
		}
	}
}

// P17.2: written out: two tables without Keys, beside one with, and of unlike lengths.
func TestLaySpreadAnew(t *testing.T) {
	c := cat(tab("u", "a int"), tab("t", "a int", 0), tab("v", "a int"), tab("w", "a int"))
	b := base(list("1 / 2 / 3"), list("NULL / 1 / NULL"), list("4"), list("5 / 6 / 7 / 8"))
	is(t, layout(base(list("1 / 3"), list("NULL / NULL"), list("4"), list("5 / 7")), base(list("2"), list("1"), nil, list("6 / 8"))))(place.Lay(c, b, 2, nil))
	is(t, layout(base(list("2 / 3"), list("NULL / NULL"), nil, list("6 / 7")), base(list("1"), list("1"), list("4"), list("5 / 8"))))(place.Lay(c, b, 2, []int{1, 0, 2}))
}

// P17.2: nodes from 1 to MaxSites, and no others.
func TestLayCounts(t *testing.T) {
	for _, c := range catalogs() {
		for _, rows := range []int{0, 1, 12} {
			b := fullBase(c, rows)
			for nodes := 1; nodes <= api.MaxSites; nodes++ {
				l, e := place.Lay(c, b, nodes, nil)
				if e != api.OK || len(l.Parts) != nodes {
					t.Errorf("%v nodes: %v, %v", nodes, l, e)
				}
				says(t, api.OK, c, l)
			}
			for _, nodes := range noCounts {
				for _, spread := range [][]int{nil, {1, -1}} {
					isNone[api.Layout](t, api.ErrArg)(place.Lay(c, b, nodes, spread))
				}
			}
		}
	}
}

// noBases are databases that may not be of the chapter's catalog.
func noBases() []api.Base {
	return []api.Base{
		{}, base(nil), base(nil, nil, nil), base(list("1"), list("'a'")), base(list("1 1"), nil), base([]api.Row{{}}, nil), base(nil, []api.Row{nil}),
		base(nil, counted(13)), base(counted(13), nil), base(nil, []api.Row{{api.Value{N: 1}}}), base(nil, []api.Row{{{Kind: api.VSum}}}), base(list("TRUE"), nil),
	}
}

// P17.2: a database that may not be, be the count of nodes one or none.
func TestLayNoBase(t *testing.T) {
	c := chapters()
	for _, b := range noBases() {
		for _, nodes := range append(noCounts, counts...) {
			isNone[api.Layout](t, api.ErrBase)(place.Lay(c, b, nodes, []int{1}))
		}
	}
	is(t, layout(base(counted(12), counted(12))))(place.Lay(c, base(counted(12), counted(12)), 1, nil))
	isNone[api.Layout](t, api.ErrBase)(place.Lay(cat(), base(nil), 1, nil))
	is(t, layout(base(), base()))(place.Lay(cat(), base(), 2, nil))
}
