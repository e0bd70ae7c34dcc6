package coord_test

import (
	"testing"

	"bowsprit/api"
)

// wrongCatalogs may not be.
func wrongCatalogs() []api.Catalog {
	t, u := tab("t", "a int b text", 0), tab("u", "c int")
	l := []api.Catalog{cat(api.Table{}), cat(t, t), cat(t, tab("U", "c int")), cat(tab("t", "a int a text"), u), cat(tab("t", "a int", 1)), cat(tab("t", "a int b int", 1, 0)), cat(t, u, tab("v", "a int"), tab("w", "a int"), tab("x", "a int"))}
	for _, kind := range []int{kn, ks, 5, -1} {
		l = append(l, cat(t, api.Table{Name: "u", Columns: []api.Column{{Name: "c", Kind: kind}}}))
	}
	return l
}

// P28.1: New: a coordinator of a worker of the node 0, without tables, and of nothing else.
func TestNew(t *testing.T) {
	all := cat(tab("t", "a int b text c bool d int", 0, 1, 2, 3), tab("u", "a int"), tab("v", "a int"), tab("w", "a int"))
	for _, c := range []api.Catalog{{}, tables(), all} {
		for _, nodes := range append(numbers(-2, api.MaxSites+3), far()...) {
			g := given{Catalog: c, Sites: nodes}
			if nodes < 1 || nodes > api.MaxSites {
				refuses(t, "New", g, api.ErrArg)
				continue
			}
			got := asRule(t, "New", g)
			if !same(got, answer{Coord: api.Coord{Worker: api.Worker{Sites: nodes, Catalog: c}}}) {
				t.Errorf("New(%v, %v): %v", c, nodes, got)
			}
			isQuiet(t, true, got.Coord)
			hasNoReport(t, got.Coord, 1)
		}
	}
}

// P28.1: New: ErrCatalog goes ahead of ErrArg, as of a worker.
func TestNewOfNoCatalog(t *testing.T) {
	for _, c := range wrongCatalogs() {
		for _, nodes := range []int{-1, 0, 1, sites, api.MaxSites, api.MaxSites + 1} {
			refuses(t, "New", given{Catalog: c, Sites: nodes}, api.ErrCatalog)
		}
	}
}
