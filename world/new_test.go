package world_test

import (
	"slices"
	"testing"

	"bowsprit/api"
)

// wrongCatalogs may not be.
func wrongCatalogs() []api.Catalog {
	t, u := tab("t", "a int b text", 0), tab("u", "c int")
	l := []api.Catalog{cat(api.Table{}), cat(t, t), cat(t, tab("U", "c int")), cat(tab("t", "a int a text"), u), cat(tab("t", "a int", 1)), cat(tab("t", "a int b int", 1, 0)), cat(t, u, tab("v", "a int"), tab("w", "a int"), tab("x", "a int"))}
	for _, kind := range []int{kn, ks, 5, -1} {
		l = append(l, cat(t, api.Table{Name: "u", Columns: []api.Column{{Name: "c", Kind: kind}}}))
	}
	return l
}

// wrongLayouts may not be such of tables, each for another reason, but for where rows of t lie.
func wrongLayouts() []api.Layout {
	part := func(tables ...[]api.Row) api.Base { return api.Base{Tables: tables} }
	l := []api.Layout{{}, {Parts: []api.Base{{}}}, {Parts: []api.Base{part(nil)}}, {Parts: []api.Base{part(nil, nil, nil)}}, {Parts: []api.Base{part(nil, list("'a'"))}}, {Parts: []api.Base{part(nil, list("1 2"))}}, {Parts: []api.Base{part(list("1"), nil)}}}
	l = append(l, placed("", make([]string, 9)...), placed("", "1 / 2 / 3 / 4 / 5 / 6 / 7", "1 / 2 / 3 / 4 / 5 / 6"), api.Layout{Parts: []api.Base{part(nil, nil), {}}}, api.Layout{Parts: []api.Base{part(nil, nil), part(nil, list("S1"))}})
	return append(l, placed("", "1 / 2 / 3 / 4 / 5 / 6 / 7 / 1 / 2 / 3 / 4 / 5 / 6"))
}

// astray is a layout of which a row of t lies where it may not.
func astray() api.Layout {
	l := parts()
	l.Parts[0].Tables, l.Parts[1].Tables = l.Parts[1].Tables, l.Parts[0].Tables
	return l
}

// news holds that a world is made of a catalog and a layout.
func news(t *testing.T, c api.Catalog, l api.Layout) {
	t.Helper()
	got := asRule(t, "New", given{Catalog: c, Layout: l})
	if !same(got, answer{World: worldOf(c, l)}) {
		t.Errorf("New(%v, %v): %v", c, l, got)
	}
	ran := asRule(t, "Run", given{Catalog: c, Layout: l})
	if !same(ran, got) {
		t.Errorf("Run(%v, %v) of nothing: %v", c, l, ran)
	}
}

// P29.1: New: of no table, of no row, of rows wherever they may lie, of as many parts as there may be.
func TestNew(t *testing.T) {
	news(t, tables(), parts())
	for nodes := 1; nodes <= api.MaxSites; nodes++ {
		news(t, api.Catalog{}, api.Layout{Parts: make([]api.Base, nodes)})
		news(t, tables(), placed("", make([]string, nodes)...))
		news(t, tables(), placed("1 'x' / 2 'y' / 3 NULL / NULL NULL / 5 '' / 6 ''", strewn(nodes)...))
		news(t, tables(), placed("", slices.Insert(make([]string, nodes-1), nodes/2, "1 / 2 / 3 / 4 / 5 / 6 / 7 / 8 / 9 / 10 / 11 / 12")...))
	}
	all := cat(tab("t", "a int b text c bool d int"), tab("u", "a int"), tab("v", "a bool"), tab("w", "a text"))
	news(t, all, api.Layout{Parts: []api.Base{{Tables: [][]api.Row{list("1 'a' TRUE NULL"), nil, list("FALSE / NULL"), list("''")}}, {Tables: [][]api.Row{list("NULL NULL NULL NULL"), list("5"), nil, nil}}}})
}

// P29.1: New: place.Check's errors, in their order.
func TestNewOfWhatMayNotBe(t *testing.T) {
	for _, c := range wrongCatalogs() {
		for _, l := range append(wrongLayouts(), parts(), astray()) {
			refuses(t, "New", given{Catalog: c, Layout: l}, api.ErrCatalog)
		}
	}
	for _, l := range wrongLayouts() {
		refuses(t, "New", given{Catalog: tables(), Layout: l}, api.ErrLayout)
	}
	refuses(t, "New", given{Catalog: tables(), Layout: astray()}, api.ErrScheme)
	both := astray()
	both.Parts[2].Tables[1] = list("'a'")
	refuses(t, "New", given{Catalog: tables(), Layout: both}, api.ErrLayout)
	refuses(t, "New", given{Catalog: api.Catalog{}, Layout: parts()}, api.ErrLayout)
	refuses(t, "New", given{Catalog: api.Catalog{}}, api.ErrLayout)
	refuses(t, "New", given{Catalog: api.Catalog{}, Layout: api.Layout{Parts: make([]api.Base, 9)}}, api.ErrLayout)
}
