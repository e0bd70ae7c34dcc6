package worker_test

import (
	"testing"

	"bowsprit/api"
)

// noNew holds that there is no worker of these, and why.
func noNew(t *testing.T, want api.Errno, c api.Catalog, nodes, node int, tables [][]api.Row) {
	t.Helper()
	got := asRule(t, "New", given{Catalog: c, Sites: nodes, Node: node, Tables: tables})
	if !same(got, answer{Err: want}) {
		t.Errorf("New of %v, %v, %v, %v: %v, %v, not %v", c, nodes, node, tables, short(got.Worker), got.Err, want)
	}
}

// P26.2: a worker of each node, of as many as there may be.
func TestNew(t *testing.T) {
	catalogs := []api.Catalog{{}, cat(tab("t", "a int")), tables(), cat(tab("t", "a int b text c bool d int", 0, 1, 2, 3), tab("u", "a int"), tab("v", "a int"), tab("w", "a int"))}
	for nodes := 1; nodes <= api.MaxSites; nodes++ {
		for _, c := range catalogs {
			isNew(t, c, nodes, 0, nil)
			for node := 1; node <= nodes; node++ {
				isNew(t, c, nodes, node, make([][]api.Row, len(c.Tables)))
			}
		}
		isNew(t, tables(), nodes, nodes, plain(1).Tables)
	}
	isNew(t, cat(tab("t", "a int b bool c text")), 3, 2, [][]api.Row{list("5 TRUE 'x' / NULL NULL NULL / 5 TRUE 'x'")})
	isNew(t, cat(tab("t", "a int")), 3, 2, [][]api.Row{ones(api.MaxTable)})
}

// P26.2: places that there are not, just and by one more.
func TestNewOfPlaces(t *testing.T) {
	for nodes := -2; nodes <= api.MaxSites+2; nodes++ {
		for node := -2; node <= api.MaxSites+2; node++ {
			may := nodes >= 1 && nodes <= api.MaxSites && node >= 0 && node <= nodes
			l := plain(1).Tables
			if node == 0 {
				l = nil
			}
			if may {
				isNew(t, tables(), nodes, node, l)
			} else {
				noNew(t, api.ErrArg, tables(), nodes, node, l)
				noNew(t, api.ErrArg, api.Catalog{}, nodes, node, nil)
			}
		}
		for _, n := range far() {
			noNew(t, api.ErrArg, tables(), nodes, n, nil)
			noNew(t, api.ErrArg, tables(), n, nodes, nil)
			noNew(t, api.ErrArg, tables(), n, n, plain(1).Tables)
		}
	}
}

// wrongTables are none of the catalog that tables says.
func wrongTables() [][][]api.Row {
	l := [][][]api.Row{
		nil, {nil}, {nil, nil, nil}, {list("1 'a'"), list("1"), nil}, {list("1"), list("1 'a'")}, {nil, ones(api.MaxTable + 1)}, {nil, {{}}}, {nil, list("1 / 1 1")}, {list("1"), nil}, {list("1 'a' 1"), nil},
		{nil, list("'a'")}, {nil, list("1 / TRUE")}, {nil, list("S1")}, {list("'a' 'a'"), nil}, {list("1 'a' / 1 1"), nil}, {list("1 TRUE"), nil}, {list("1 S1"), nil},
	}
	for _, r := range wrongRows() {
		l = append(l, [][]api.Row{nil, {r}}, [][]api.Row{list("1 'a'"), {list("1")[0], r}}, [][]api.Row{{{number(1), r[0]}}, nil}, [][]api.Row{{{r[0], text("a")}}, nil})
	}
	return l
}

// P26.2: tables that are not as they must be; of the coordinator's node all that there are.
func TestNewOfTables(t *testing.T) {
	for k, l := range wrongTables() {
		for node := 1; node <= sites; node++ {
			noNew(t, api.ErrBase, tables(), sites, node, l)
		}
		if k == 0 {
			isNew(t, tables(), sites, 0, l)
		} else {
			noNew(t, api.ErrBase, tables(), sites, 0, l)
		}
	}
	noNew(t, api.ErrBase, tables(), sites, 0, plain(1).Tables)
	noNew(t, api.ErrBase, api.Catalog{}, sites, 0, [][]api.Row{nil})
	noNew(t, api.ErrBase, api.Catalog{}, sites, 1, [][]api.Row{nil})
	noNew(t, api.ErrBase, cat(tab("t", "a int")), sites, 1, [][]api.Row{ones(api.MaxList + 1)})
}

// P26.2: a catalog that may not be goes ahead of a place that there is not, and that ahead of tables; each alone, and several at once.
func TestNewOfSeveral(t *testing.T) {
	for _, c := range wrongCatalogs() {
		noNew(t, api.ErrCatalog, c, 1, 0, nil)
		noNew(t, api.ErrCatalog, c, 1, 1, make([][]api.Row, len(c.Tables)))
		noNew(t, api.ErrCatalog, c, 0, 0, nil)
		noNew(t, api.ErrCatalog, c, 1, 2, nil)
		noNew(t, api.ErrCatalog, c, -1, -1, [][]api.Row{wrongRows()})
		noNew(t, api.ErrCatalog, c, sites, 1, [][]api.Row{wrongRows()})
		noNew(t, api.ErrCatalog, c, sites, 0, [][]api.Row{nil})
	}
	for _, l := range append(wrongTables(), plain(1).Tables) {
		for _, p := range [][2]int{{0, 0}, {0, 1}, {api.MaxSites + 1, 0}, {api.MaxSites + 1, 1}, {sites, -1}, {sites, sites + 1}, {-1, -1}} {
			noNew(t, api.ErrArg, tables(), p[0], p[1], l)
		}
	}
}

// P26.2: catalogs and databases of chance; what is answered goes on as any other one.
func TestNewByRule(t *testing.T) {
	m := newMaker(262)
	met := tally{}
	for range 500 {
		m.newCatalog()
		g := given{Catalog: m.catalog, Sites: 1 + m.Intn(api.MaxSites), Tables: m.base().Tables}
		g.Node = m.Intn(g.Sites + 1)
		switch m.Intn(6) {
		case 0:
			g.Sites = m.Intn(2) * 9
		case 1:
			g, _ = variant(g, m.Intn(60))
		case 2:
			m.newCatalog()
			g.Catalog = m.catalog
		}
		if g.Node == 0 && m.Intn(4) > 0 {
			g.Tables = nil
		}
		got := asRule(t, "New", g)
		met[got.Err]++
		if got.Err == api.OK {
			ticks(t, got.Worker, got.Worker)
			knows(t, got.Worker, 1, 0)
		}
	}
	met.metAll(t, api.OK, api.ErrCatalog, api.ErrArg, api.ErrBase)
}
