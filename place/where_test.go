package place_test

import (
	"strings"
	"testing"

	"bowsprit/api"
	"bowsprit/place"
)

// P17.4: the chapter's examples, and some beside them, written out.
func TestWhereKnown(t *testing.T) {
	c := chapters()
	is(t, 0)(place.Where(c, 1, one("1"), 2))
	is(t, 0)(place.Where(c, 1, one("NULL"), 1))
	isNone[int](t, api.ErrArg)(place.Where(c, 0, one("1 1"), 2))
	for nodes, want := range map[int]int{1: 1, 2: 2, 4: 4, 8: 8} {
		is(t, want)(place.Where(c, 0, one("1"), nodes))
	}
	for nodes, want := range map[int]int{1: 1, 2: 1, 4: 1, 8: 5} {
		is(t, want)(place.Where(c, 0, one("NULL"), nodes))
	}
	second := cat(tab("t", "a int b int", 1))
	is(t, 8)(place.Where(second, 0, one("NULL 1"), 8))
	is(t, 5)(place.Where(second, 0, one("1 NULL"), 8))
}

// P17.4: of all tables, rows and counts: the node of the hash, 0 without Keys.
func TestWhereByRule(t *testing.T) {
	seen := map[int]int{}
	for _, c := range catalogs() {
		for table, x := range c.Tables {
			for _, r := range rowsOf(x) {
				for nodes := 1; nodes <= api.MaxSites; nodes++ {
					want := nodeByRule(x, r, nodes)
					is(t, want)(place.Where(c, table, r, nodes))
					seen[want]++
				}
			}
		}
	}
	for node := range api.MaxSites + 1 {
		if seen[node] < 10 {
			t.Errorf("%v at %v", seen[node], node)
		}
	}
}

// P17.4: no table of that place, beside the last one that there is.
func TestWhereNoTable(t *testing.T) {
	for _, c := range catalogs() {
		for _, nodes := range counts {
			for _, table := range nowhere(len(c.Tables)) {
				for _, r := range []api.Row{nil, one("1"), one("1 'a' TRUE 2")} {
					isNone[int](t, api.ErrArg)(place.Where(c, table, r, nodes))
				}
			}
			if last := len(c.Tables) - 1; last >= 0 {
				r := rowsOf(c.Tables[last])[0]
				is(t, nodeByRule(c.Tables[last], r, nodes))(place.Where(c, last, r, nodes))
			}
		}
	}
}

// P17.4: nodes from 1 to MaxSites and no others, of tables with Keys and without.
func TestWhereCounts(t *testing.T) {
	for _, c := range catalogs() {
		for table, x := range c.Tables {
			r := rowsOf(x)[0]
			for _, nodes := range noCounts {
				isNone[int](t, api.ErrArg)(place.Where(c, table, r, nodes))
			}
			for _, nodes := range []int{1, api.MaxSites} {
				is(t, nodeByRule(x, r, nodes))(place.Where(c, table, r, nodes))
			}
		}
	}
}

// P17.4: a row that has not the table's columns: too few values, too many, one of another kind, one that may not be; with Keys and without.
func TestWhereNoRow(t *testing.T) {
	c := several()
	good := one("1 'a' TRUE 2")
	wrong := 0
	for table, x := range c.Tables {
		hold := func(r api.Row) {
			t.Helper()
			if rowByRule(x, r) {
				is(t, nodeByRule(x, r, 7))(place.Where(c, table, r, 7))
				return
			}
			isNone[int](t, api.ErrArg)(place.Where(c, table, r, 7))
			wrong++
		}
		for values := range api.MaxWidth + 3 {
			hold(make(api.Row, values))
			hold(append(good[:min(values, 4):min(values, 4)], make(api.Row, max(0, values-4))...))
		}
		hold(nil)
		hold(make(api.Row, 1<<16))
		for column := range good {
			for _, v := range append(noValues(), valueOf...) {
				hold(with(good, column, v))
			}
			hold(with(good, column, text(strings.Repeat("x", api.MaxText))))
		}
	}
	if wrong < 4*80 {
		t.Error(wrong)
	}
}
