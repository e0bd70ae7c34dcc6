package place_test

import (
	"math"
	"slices"
	"strings"
	"testing"

	"bowsprit/api"
	"bowsprit/place"
)

// P17.1: no part, one, up to MaxSites, one more, far more; of each catalog.
func TestCountOfParts(t *testing.T) {
	for _, c := range catalogs() {
		for parts := range api.MaxSites + 4 {
			want := api.OK
			if parts == 0 || parts > api.MaxSites {
				want = api.ErrLayout
			}
			says(t, want, c, bare(c, parts))
		}
		says(t, api.ErrLayout, c, api.Layout{Parts: []api.Base{}})
		says(t, api.ErrLayout, c, bare(c, 256))
		if e := place.Check(c, bare(c, 1<<16+1)); e != api.ErrLayout {
			t.Error(e)
		}
	}
}

// P17.1: each part has as many lists of rows as the catalog has tables, no less, no more, whichever part it is.
func TestCountOfTables(t *testing.T) {
	for _, c := range catalogs() {
		for _, nodes := range counts {
			for at := range nodes {
				for tables := range api.MaxTables + 3 {
					want := api.OK
					if tables != len(c.Tables) {
						want = api.ErrLayout
					}
					l := bare(c, nodes)
					l.Parts[at] = base(make([][]api.Row, tables)...)
					says(t, want, c, l)
				}
			}
		}
	}
}

// atEach holds rows as those of a table, at each node of layouts that have nothing else.
func atEach(t *testing.T, want api.Errno, c api.Catalog, table int, rows []api.Row) {
	t.Helper()
	for _, nodes := range counts {
		for at := range nodes {
			l := bare(c, nodes)
			l.Parts[at].Tables[table] = rows
			says(t, want, c, l)
		}
	}
}

// P17.1: a part may be no database of the catalog: by a row that is too short, too long, or of another kind.
func TestRowsOfAPart(t *testing.T) {
	c := cat(tab("w", mixed), tab("x", mixed), tab("y", "a int"), tab("z", "a text"))
	good := one("1 'a' TRUE 2")
	for table := range 2 {
		for values := range api.MaxWidth + 2 {
			want := api.ErrLayout
			if values == len(good) {
				want = api.OK
			}
			atEach(t, want, c, table, []api.Row{good, make(api.Row, values), good})
			atEach(t, want, c, table, []api.Row{make(api.Row, values)})
		}
		for column := range good {
			for kind, v := range valueOf {
				want := api.ErrLayout
				if kind == good[column].Kind || kind == api.VNull {
					want = api.OK
				}
				atEach(t, want, c, table, []api.Row{good, with(good, column, v)})
			}
			for _, v := range noValues() {
				atEach(t, api.ErrLayout, c, table, []api.Row{with(good, column, v), good})
			}
		}
	}
	atEach(t, api.OK, c, 2, list("9223372036854775807 / -9223372036854775808"))
	atEach(t, api.OK, c, 3, []api.Row{{text(strings.Repeat("x", api.MaxText))}, {text("\xff\x00")}})
	atEach(t, api.ErrLayout, c, 2, list("'a'"))
	atEach(t, api.ErrLayout, c, 3, list("1"))
}

// P17.1: of no table have all parts together more than MaxTable rows: in one part, or spread over several.
func TestCountOfRows(t *testing.T) {
	c := cat(tab("u", "a int"), tab("v", "a int"), tab("w", "a int"), tab("x", "a int"))
	for count := range 2*api.MaxTable + 2 {
		want := api.OK
		if count > api.MaxTable {
			want = api.ErrLayout
		}
		for table := range api.MaxTables {
			atEach(t, want, c, table, counted(count))
			atEach(t, want, c, table, slices.Repeat(list("NULL"), count))
			for _, nodes := range counts {
				l := bare(c, nodes)
				for k, r := range counted(count) {
					rows := &l.Parts[k%nodes].Tables[table]
					*rows = append(*rows, r)
				}
				says(t, want, c, l)
				l.Parts[nodes-1].Tables[(table+1)%api.MaxTables] = counted(12)
				l.Parts[0].Tables[(table+2)%api.MaxTables] = counted(12)
				says(t, want, c, l)
			}
		}
	}
}

// P17.1: tables are counted each by itself: all may have MaxTable rows, at one node and at several; with one more row of any it is too many.
func TestAllTablesFull(t *testing.T) {
	c := cat(tab("u", "a int"), tab("v", "a int"), tab("w", "a int"), tab("x", "a int"))
	for _, nodes := range counts {
		for shift := range 4 {
			l := bare(c, nodes)
			for table := range c.Tables {
				for k, r := range counted(12) {
					rows := &l.Parts[(k/4+table*shift)%nodes].Tables[table]
					*rows = append(*rows, r)
				}
			}
			says(t, api.OK, c, l)
			for table := range c.Tables {
				for at := range nodes {
					more := copyOf(l)
					more.Parts[at].Tables[table] = append(more.Parts[at].Tables[table], one("1"))
					says(t, api.ErrLayout, c, more)
				}
			}
		}
	}
	for _, rows := range [][]api.Row{counted(1 << 16), slices.Repeat(list("1"), 13)} {
		says(t, api.ErrLayout, c, layout(base(nil, nil, nil, rows)))
	}
	two := layout(base(counted(12), nil, nil, nil), base(nil, counted(12), nil, nil))
	says(t, api.OK, c, two)
}

// P17.1: a row of a table with Keys lies at its own node, and at no other one; one of a table without lies anywhere.
func TestScheme(t *testing.T) {
	for _, c := range catalogs() {
		for table, x := range c.Tables {
			for _, r := range rowsOf(x) {
				for _, nodes := range counts {
					for at := range nodes {
						want := api.OK
						if own := nodeByRule(x, r, nodes); own != 0 && own != at+1 {
							want = api.ErrScheme
						}
						l := bare(c, nodes)
						l.Parts[at].Tables[table] = []api.Row{r}
						says(t, want, c, l)
					}
				}
			}
		}
	}
}

// rowsOf are rows of a table: of all values that its columns may have some, nulls among them, those that are alike too.
func rowsOf(x api.Table) []api.Row {
	values := map[int][]api.Value{
		api.VBool: {yes, no, null},
		api.VInt:  {number(1), null, number(2), number(0), number(-1), number(math.MinInt64), number(math.MaxInt64), number(256)},
		api.VText: {text("a"), text(""), null, text("b"), text(strings.Repeat("\xff", api.MaxText))},
	}
	var l []api.Row
	for k := range api.MaxTable {
		var r api.Row
		for at, column := range x.Columns {
			own := values[column.Kind]
			r = append(r, own[(k+k*at/2)%len(own)])
		}
		l = append(l, r)
	}
	l[10], l[11] = slices.Repeat(api.Row{null}, len(x.Columns)), l[0]
	return l
}

// P17.1: one row at another node than its own is enough, at whichever place, of whichever table, among however many that lie right.
func TestOneAstray(t *testing.T) {
	c := several()
	for _, nodes := range counts {
		b := base()
		for _, x := range c.Tables {
			b.Tables = append(b.Tables, rowsOf(x)[:11])
		}
		right := layByRule(c, b, nodes, []int{2, 0, 1})
		says(t, api.OK, c, right)
		for table, x := range c.Tables {
			for from := range nodes {
				for at := range right.Parts[from].Tables[table] {
					for to := range nodes {
						want := api.OK
						if len(x.Keys) > 0 && to != from {
							want = api.ErrScheme
						}
						says(t, want, c, moveByRule(right, table, from+1, at, to+1))
					}
				}
			}
		}
	}
}

// P17.1: written out: the hash of 1 is 1CA1B2D7, that of null C925CD24 (layer 5), which are 7 and 4 modulo 8, 1 and 0 modulo 2; a key is one column among others.
func TestSchemeKnown(t *testing.T) {
	c := chapters()
	ones := func(nodes, at int, rows string) api.Layout {
		l := bare(c, nodes)
		l.Parts[at-1].Tables[0] = list(rows)
		return l
	}
	for at := 1; at <= 8; at++ {
		for rows, own := range map[string]int{"1": 8, "NULL": 5, "1 / 1 / 1": 8, "1 / NULL": 0, "NULL / 1": 0} {
			want := api.ErrScheme
			if own == at {
				want = api.OK
			}
			says(t, want, c, ones(8, at, rows))
		}
	}
	says(t, api.OK, c, ones(2, 2, "1"))
	says(t, api.ErrScheme, c, ones(2, 1, "1"))
	says(t, api.OK, c, ones(2, 1, "NULL"))
	says(t, api.ErrScheme, c, ones(2, 2, "NULL"))
	says(t, api.OK, c, ones(1, 1, "NULL / 1"))
	second := cat(tab("t", "a int b int", 1))
	says(t, api.OK, second, layout(base(list("1 NULL / NULL NULL")), base(list("NULL 1 / 2 1"))))
	says(t, api.ErrScheme, second, layout(base(list("NULL 1")), base(nil)))
	says(t, api.ErrScheme, second, layout(base(nil), base(list("1 NULL"))))
}

// differing are layouts no two of which are the same; of the first one all others differ in one thing.
func differing() []api.Layout {
	return []api.Layout{
		layout(base(list("1 2 / 3 'a'"), list("1")), base(list("1 2"), nil)),
		layout(base(list("1 2 / 3 'a'"), list("1"))),
		layout(base(list("1 2 / 3 'a'"), list("1")), base(list("1 2"), nil), base(nil, nil)),
		layout(base(list("1 2 / 3 'a'"), list("1")), base(list("1 2"), nil), base()),
		layout(base(list("1 2 / 3 'a'"), list("1")), base(list("1 2"))),
		layout(base(list("1 2 / 3 'a'"), list("1")), base(list("1 2"), nil, nil)),
		layout(base(list("1 2 / 3 'a'")), base(list("1 2"), nil)),
		layout(base(list("1 2 / 3 'a'"), list("1")), base(nil, list("1 2"))),
		layout(base(list("1 2 / 3 'a'"), list("1")), base(list("1 2"), list("1"))),
		layout(base(list("1 2"), nil), base(list("1 2 / 3 'a'"), list("1"))),
		layout(base(list("3 'a' / 1 2"), list("1")), base(list("1 2"), nil)),
		layout(base(list("1 2 / 3 'a' / 1 2"), list("1")), base(list("1 2"), nil)),
		layout(base(list("1 2 / 3 'a'"), nil), base(list("1 2"), nil)),
		layout(base(list("1 2"), list("1")), base(list("1 2"), nil)),
		layout(base(list("1 2 / 3 'a'"), list("1 1")), base(list("1 2"), nil)),
		layout(base(list("1 2 / 3"), list("1")), base(list("1 2"), nil)),
		layout(base(list("1 2 / 3 'b'"), list("1")), base(list("1 2"), nil)),
		layout(base(list("1 2 / 3 NULL"), list("1")), base(list("1 2"), nil)),
		layout(base(list("1 3 / 3 'a'"), list("1")), base(list("1 2"), nil)),
		layout(base(list("1 2 / 3 'a'"), list("TRUE")), base(list("1 2"), nil)),
		layout(base(list("1 2 / 3 'a'"), list("1")), base(list("1 1"), nil)),
		layout(base(list("1 2 / 3 'a'"), list("1")), base([]api.Row{{number(1), {Kind: api.VInt, N: 2, U: 1}}}, nil)),
		layout(base(list("1 2 / 3 'a'"), list("1")), base([]api.Row{{number(1), {Kind: api.VInt, N: 2, S: "x"}}}, nil)),
		layout(base(list("1 2 / 3 'a'"), list("1")), base(list("1 2"), []api.Row{nil})),
		{}, layout(base()), layout(base(), base()), layout(base(nil)), layout(base(nil, nil)),
	}
}

// P17.1: Same of what differs in one part, one table, one row, one value, in how many there are; of what may be and what may not.
func TestSame(t *testing.T) {
	for j, a := range differing() {
		for k, b := range differing() {
			if got := place.Same(a, b); got != (j == k) {
				t.Errorf("%v, %v: %v", a, b, got)
			}
			if got := place.Same(roomy(a), copyOf(b)); got != (j == k) {
				t.Errorf("%v, %v, with room: %v", a, b, got)
			}
		}
	}
	for _, l := range [][2]api.Layout{
		{{}, {Parts: []api.Base{}}}, {layout(base()), layout(base([][]api.Row{}...))}, {layout(base(nil)), layout(base([]api.Row{}))},
		{layout(base([]api.Row{nil})), layout(base([]api.Row{{}}))}, {bare(chapters(), 200), bare(chapters(), 200)},
	} {
		if !place.Same(l[0], l[1]) || !place.Same(l[1], l[0]) {
			t.Errorf("%v, %v", l[0], l[1])
		}
	}
	if place.Same(bare(chapters(), 200), bare(chapters(), 201)) {
		t.Error("200 parts are as 201")
	}
}
