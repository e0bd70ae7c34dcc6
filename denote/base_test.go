package denote_test

import (
	"slices"
	"strings"
	"testing"

	"bowsprit/api"
	"bowsprit/denote"
)

// named is a table of columns of kinds.
func named(name string, kinds ...int) api.Table {
	t := api.Table{Name: name}
	for k, kind := range kinds {
		t.Columns = append(t.Columns, api.Column{Name: string(rune('a' + k)), Kind: kind})
	}
	return t
}

func catalogOf(tables ...api.Table) api.Catalog {
	return api.Catalog{Tables: tables}
}

// mayHold holds whether rows may be those of a table of kinds: in a database of a catalog, at each place of it, and in one that a tree scans.
func mayHold(t *testing.T, want bool, rows []api.Row, kinds ...int) {
	t.Helper()
	e := api.ErrBase
	if want {
		e = api.OK
	}
	for place := range api.MaxTables {
		c := catalogOf(named("t", api.VInt), named("u", api.VText), named("v", api.VBool))
		c.Tables = slices.Insert(c.Tables, place, named("own", kinds...))
		b := base(list("1"), list("'a' / NULL"), nil)
		b.Tables = slices.Insert(b.Tables, place, rows)
		if got := denote.CheckBase(c, b); got != e {
			t.Errorf("%v at %v: %v, not %v", rows, place, got, e)
		}
		scanned := table(place, kinds...)
		for _, l := range []api.Logic{scanned, tree(distinct(), scanned), tree(join(false, lit(no)), table((place+1)%4, api.VInt), scanned)} {
			b := copyOf(b)
			b.Tables[(place+1)%4] = nil
			if got := denote.Fits(l, b); got != want {
				t.Errorf("%v: %v: %v, not %v", l, rows, got, want)
			}
			if want {
				ruled(t, l, b)
			} else {
				isNone(t, api.ErrBase)(denote.Rows(l, b))
			}
		}
	}
}

// P15.1: as many lists of rows as tables, no less, no more; none of none.
func TestCountOfTables(t *testing.T) {
	var c api.Catalog
	for tables := range api.MaxTables + 1 {
		if tables > 0 {
			c.Tables = append(c.Tables, named(strings.Repeat("t", tables), api.VInt))
		}
		for lists := range api.MaxTables + 3 {
			want := api.OK
			if lists != tables {
				want = api.ErrBase
			}
			for _, rows := range [][]api.Row{nil, {}, list("1"), counted(12)} {
				if got := denote.CheckBase(c, api.Base{Tables: slices.Repeat([][]api.Row{rows}, lists)}); got != want {
					t.Errorf("%v of %v: %v, not %v", lists, tables, got, want)
				}
			}
		}
	}
	if e := denote.CheckBase(api.Catalog{Tables: []api.Table{}}, api.Base{Tables: [][]api.Row{}}); e != api.OK {
		t.Error(e)
	}
	if e := denote.CheckBase(catalogOf(named("t", api.VInt)), api.Base{Tables: make([][]api.Row, 1<<16)}); e != api.ErrBase {
		t.Error(e)
	}
}

// P15.1: from no rows to MaxTable of them, and one more; the same ones among them.
func TestCountOfRows(t *testing.T) {
	for count := range api.MaxTable + 3 {
		mayHold(t, count <= api.MaxTable, counted(count), api.VInt)
		mayHold(t, count <= api.MaxTable, slices.Repeat(list("NULL"), count), api.VText)
	}
	mayHold(t, true, []api.Row{}, api.VBool)
	mayHold(t, false, counted(1<<16), api.VInt)
}

// P15.1: a row has as many values as there are columns, no less, no more, at whichever place of the list it stands.
func TestCountOfValues(t *testing.T) {
	for columns := 1; columns <= api.MaxColumns; columns++ {
		kinds := slices.Repeat([]int{api.VInt}, columns)
		good := slices.Repeat(api.Row{number(1)}, columns)
		for values := range api.MaxWidth + 2 {
			for _, v := range []api.Value{null, number(1)} {
				r := slices.Repeat(api.Row{v}, values)
				mayHold(t, values == columns, []api.Row{r}, kinds...)
				mayHold(t, values == columns, []api.Row{r, good, good}, kinds...)
				mayHold(t, values == columns, []api.Row{good, good, r}, kinds...)
			}
		}
	}
	mayHold(t, false, []api.Row{nil}, api.VInt)
}

// P15.1: each value is null, or of its column's kind; no other kind, no sum, nothing that may not be.
func TestKindsOfValues(t *testing.T) {
	kinds := []int{api.VBool, api.VInt, api.VText, api.VInt}
	good := api.Row{yes, number(1), text("a"), null}
	mayHold(t, true, []api.Row{good}, kinds...)
	mayHold(t, true, []api.Row{make(api.Row, 4), good, good}, kinds...)
	for place, kind := range kinds {
		for own, v := range valueOf {
			r := slices.Clone(good)
			r[place] = v
			mayHold(t, own == kind || own == api.VNull, []api.Row{good, r}, kinds...)
		}
		for _, v := range noValues() {
			r := slices.Clone(good)
			r[place] = v
			mayHold(t, false, []api.Row{r}, kinds...)
			mayHold(t, false, []api.Row{good, r, good}, kinds...)
		}
		for _, v := range []api.Value{no, yes, number(least), number(most), number(0), text(""), text(strings.Repeat("x", api.MaxText)), text("\xff'\x00")} {
			r := slices.Clone(good)
			r[place] = v
			mayHold(t, v.Kind == kind, []api.Row{r, good}, kinds...)
		}
	}
}

// noCatalogs are catalogs that may not be.
func noCatalogs() []api.Catalog {
	ordinary := named("t", api.VInt)
	return []api.Catalog{
		catalogOf(named("", api.VInt)), catalogOf(named("T", api.VInt)), catalogOf(ordinary, ordinary), catalogOf(named("t")),
		catalogOf(named("t", api.VNull)), catalogOf(named("t", api.VSum)), catalogOf(named("t", 1, 1, 1, 1, 1)),
		catalogOf(named("t", 1), named("u", 1), named("v", 1), named("w", 1), named("x", 1)),
		catalogOf(api.Table{Name: "t", Columns: ordinary.Columns, Keys: []int{1}}),
	}
}

// P15.1: a catalog that may not be goes ahead of a database that may not, and of one that may.
func TestCatalogAheadOfBase(t *testing.T) {
	for _, c := range noCatalogs() {
		for _, b := range []api.Base{{}, base(nil), base(list("1")), base(list("1"), list("1")), base(counted(13)), base(nil, nil, nil, nil, nil)} {
			if e := denote.CheckBase(c, b); e != api.ErrCatalog {
				t.Errorf("%v: %v", c, e)
			}
		}
	}
	c := catalogOf(api.Table{Name: "t", Columns: named("t", 2, 3).Columns, Keys: []int{0, 1}})
	if e := denote.CheckBase(c, base(list("1 'a' / 1 NULL"))); e != api.OK {
		t.Error(e)
	}
}

// P15.1: each table that a tree scans is there, from the first to the last; what it does not scan is not looked at.
func TestScannedTables(t *testing.T) {
	wrong := []api.Row{{number(1), number(2)}, {api.Value{N: 1}}, make(api.Row, 100)}
	for count := range 8 {
		for place := range api.MaxTables {
			b := api.Base{Tables: slices.Repeat([][]api.Row{wrong}, count)}
			l := table(place, api.VInt)
			if place < count {
				b.Tables[place] = list("7 / NULL")
				comesTo(t, l, b, "NULL / 7")
			} else {
				isNone(t, api.ErrBase)(denote.Rows(l, b))
			}
			if got := denote.Fits(l, b); got != (place < count) {
				t.Errorf("%v of %v: %v", place, count, got)
			}
			both := tree(union(), l, table(1, api.VInt))
			if got := denote.Fits(both, b); got != (place == 1 && count > 1) {
				t.Errorf("%v and 1 of %v: %v", place, count, got)
			}
		}
	}
	many := api.Base{Tables: slices.Repeat([][]api.Row{counted(100)}, 1<<16)}
	many.Tables[3] = counted(12)
	isRows(t, counted(12))(denote.Rows(table(3, api.VInt), many))
}

// P15.1: a table that is scanned twice fits each scan, or the tree does not fit.
func TestScannedTwice(t *testing.T) {
	l := tree(join(false, lit(yes)), table(0, api.VInt, api.VText), table(0, api.VText, api.VText))
	for _, c := range []struct {
		rows string
		want bool
	}{{"", true}, {"NULL NULL", true}, {"NULL 'a'", true}, {"1 'a'", false}, {"'a' 'a'", false}, {"NULL", false}} {
		b := base(list(c.rows))
		if got := denote.Fits(l, b); got != c.want {
			t.Errorf("%v: %v", c.rows, got)
		}
		if c.want {
			ruled(t, l, b)
		} else {
			refused, e := denote.Rows(l, b)
			isNone(t, api.ErrBase)(refused, e)
		}
	}
}

// noTrees are trees that may not be.
func noTrees() []api.Logic {
	one := tableT()
	return []api.Logic{
		{}, {Nodes: []api.LNode{}}, {Nodes: []api.LNode{{}}}, {Nodes: make([]api.LNode, 1<<16)},
		table(-1, api.VInt), table(api.MaxTables, api.VInt), table(0), table(0, api.VNull), table(0, api.VSum), table(0, 2, 2, 2, 2, 2),
		{Nodes: slices.Concat(one.Nodes, one.Nodes)},
		{Nodes: []api.LNode{{Op: api.LDistinct, A: 0, B: -1}}},
		{Nodes: []api.LNode{{Op: api.LScan, Kinds: ints}}},
		tree(filter(num(1)), one), tree(filter(col(1)), one), tree(filter(api.Expr{}), one),
		tree(join(false, num(1)), one, one), tree(join(true, col(2)), one, one),
		tree(group(nil), one), tree(group([]int{1}), one), tree(group(nil, agg(api.AggSum, lit(yes))), one), tree(group(nil, agg(api.AggAll, col(0))), one),
		tree(project(), one), tree(project(on(api.NAdd, col(0), lit(yes))), one),
		tree(union(), one, table(1, api.VText)), tree(union(), one, table(0, api.VInt, api.VInt)),
		tree(sortBy(-2), one), tree(sortBy(-1, up(1)), one), tree(sortBy(-1, up(0), up(0), up(0), up(0)), one), tree(sortBy(api.MaxNumber+1), one),
		tree(distinct(), tree(sortBy(-1), one)),
		tree(api.LNode{Op: api.LInput}, one), tree(api.LNode{Op: -1}, one),
	}
}

// P15.1, P15.2: a tree that may not be fits nothing, and is told ahead of all that a database might have.
func TestTreeAheadOfBase(t *testing.T) {
	for _, l := range noTrees() {
		for _, b := range []api.Base{{}, base(nil), baseT(), base(list("1"), list("'a'")), base(list("1 1"), nil, nil, nil, nil), base(counted(13))} {
			if denote.Fits(l, b) {
				t.Errorf("%v fits", l)
			}
			isNone(t, api.ErrLogic)(denote.Rows(l, b))
		}
	}
	long := tree(distinct(), tableT())
	for len(long.Nodes) < api.MaxLogic {
		long = tree(distinct(), long)
	}
	comesTo(t, long, baseT(), "NULL / 1 / 2")
	isNone(t, api.ErrLogic)(denote.Rows(tree(distinct(), long), baseT()))
}

// P15.2: a database that does not fit is told ahead of what faults, and of what is too long, wherever the scan stands.
func TestBaseAheadOfFaults(t *testing.T) {
	faults := tree(filter(bad(col(0), 1)), tableT())
	b := base(counted(12), counted(13), list("'a'"))
	isNone(t, api.ErrFault)(denote.Rows(faults, b))
	tooLong := times(times(some(12), some(12)), times(some(12), some(12)))
	tooLong = tree(join(false, lit(no)), tooLong, tooLong)
	isNone(t, api.ErrLong)(denote.Rows(tooLong, b))
	for _, other := range []api.Logic{table(1, api.VInt), table(2, api.VInt), table(3, api.VInt)} {
		for _, l := range []api.Logic{faults, tooLong} {
			isNone(t, api.ErrBase)(denote.Rows(tree(join(false, lit(no)), l, other), b))
			isNone(t, api.ErrBase)(denote.Rows(tree(join(false, lit(no)), other, l), b))
		}
	}
}
