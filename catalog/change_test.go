package catalog_test

import (
	"slices"
	"testing"

	"bowsprit/api"
	"bowsprit/catalog"
)

func isFound(t *testing.T, c api.Catalog, name string, want int, there bool) {
	t.Helper()
	if place, ok := catalog.Find(c, name); place != want || ok != there {
		t.Errorf("%q in %v: %v, %v", name, c, place, ok)
	}
}

func isColumn(t *testing.T, x api.Table, name string, want int, there bool) {
	t.Helper()
	if place, ok := catalog.Column(x, name); place != want || ok != there {
		t.Errorf("%q in %v: %v, %v", name, x, place, ok)
	}
}

// P11.2: each table, each column, and what there is not; a table that is called as a column is neither's other.
func TestFindAndColumn(t *testing.T) {
	for n := range api.MaxTables + 1 {
		c := cat(few()[:n]...)
		for place, x := range few() {
			if place < n {
				isFound(t, c, x.Name, place, true)
			} else {
				isFound(t, c, x.Name, 0, false)
			}
		}
		for _, name := range []string{"", "b", "x", "T", "tt", " t", "t ", "nobody"} {
			isFound(t, c, name, 0, false)
		}
	}
	for _, x := range few() {
		for place, c := range x.Columns {
			isColumn(t, x, c.Name, place, true)
		}
		for _, name := range []string{"", "A", "aa", " a", "int ", "nobody"} {
			isColumn(t, x, name, 0, false)
		}
	}
	isColumn(t, few()[0], "t", 0, false)
	isColumn(t, few()[2], "t", 1, true)
	isFound(t, cat(few()[:3]...), "a", 2, true)
}

// P11.2: of whatever catalog, whatever table: the first one, names that are none among them.
func TestFindInWhatever(t *testing.T) {
	l := []api.Table{tab("T", ""), tab("t", "a null a int", 7), {}, tab("t", "a int"), tab("T", "b int"), tab("by", "by int"), tab("", "x int")}
	c := cat(l...)
	isFound(t, c, "T", 0, true)
	isFound(t, c, "t", 1, true)
	isFound(t, c, "", 2, true)
	isFound(t, c, "by", 5, true)
	isFound(t, c, "a", 0, false)
	isFound(t, cat(), "", 0, false)
	isFound(t, api.Catalog{Tables: []api.Table{}}, "t", 0, false)
	x := api.Table{Name: "x", Keys: []int{-1, 9}}
	isColumn(t, x, "x", 0, false)
	isColumn(t, x, "", 0, false)
	for _, name := range []string{"b", "B", "", "b", "by", "", "B", "a b"} {
		x.Columns = append(x.Columns, api.Column{Name: name, Kind: len(x.Columns)})
	}
	isColumn(t, x, "b", 0, true)
	isColumn(t, x, "B", 1, true)
	isColumn(t, x, "", 2, true)
	isColumn(t, x, "by", 4, true)
	isColumn(t, x, "a b", 7, true)
	isColumn(t, x, "x", 0, false)
	great := make([]api.Table, 1<<16)
	great[1<<16-1].Name = "t"
	isFound(t, cat(great...), "t", 1<<16-1, true)
}

func isAdded(t *testing.T, c api.Catalog, x api.Table, want api.Errno) {
	t.Helper()
	tables := slices.Concat(c.Tables, []api.Table{x})
	if want != api.OK {
		tables = nil
	}
	if got, e := catalog.Add(c, x); e != want || !sameTables(got.Tables, tables) {
		t.Errorf("%v with %v: %v, %v, not %v", c, x, got, e, want)
	}
}

// P11.3: behind all others, if its name is not there, up to as many as there may be.
func TestAdd(t *testing.T) {
	for n := range api.MaxTables + 1 {
		c := cat(few()[:n]...)
		for place, x := range few() {
			switch {
			case place < n:
				isAdded(t, c, x, api.ErrThere)
				isAdded(t, c, tab(x.Name, "other text"), api.ErrThere)
				isAdded(t, c, tab(x.Name, ""), api.ErrTable)
				isAdded(t, c, tab(x.Name, "a int", 1), api.ErrTable)
			case n == api.MaxTables:
				isAdded(t, c, x, api.ErrFull)
				isAdded(t, c, tab(x.Name, "a int a int"), api.ErrTable)
			default:
				isAdded(t, c, x, api.OK)
				isAdded(t, c, tab(x.Name, "a int", 0, 0), api.ErrTable)
			}
		}
		isAdded(t, c, api.Table{}, api.ErrTable)
		isAdded(t, c, tab("T", "a int"), api.ErrTable)
	}
}

func isDropped(t *testing.T, c api.Catalog, name string, want api.Errno, left ...api.Table) {
	t.Helper()
	if got, e := catalog.Drop(c, name); e != want || !sameTables(got.Tables, left) {
		t.Errorf("%v without %q: %v, %v, not %v", c, name, got, e, want)
	}
}

// P11.3: each table of each place, and such as there are not.
func TestDrop(t *testing.T) {
	for n := range api.MaxTables + 1 {
		c := cat(few()[:n]...)
		for place, x := range few() {
			if place < n {
				isDropped(t, c, x.Name, api.OK, slices.Delete(few()[:n], place, place+1)...)
			} else {
				isDropped(t, c, x.Name, api.ErrNone)
			}
		}
		for _, name := range append(noNames(), "b", "x", "nobody") {
			isDropped(t, c, name, api.ErrNone)
		}
	}
}

// roomy is a catalog of tables whose lists have room behind their ends, with something in it.
func roomy(l ...api.Table) api.Catalog {
	tables := append(make([]api.Table, 0, 9), l...)
	for place, x := range tables {
		x.Columns = append(slices.Clone(x.Columns), api.Column{Name: "behind", Kind: 9})
		x.Keys = append(slices.Clone(x.Keys), 99)
		tables[place].Columns, tables[place].Keys = x.Columns[:len(x.Columns)-1], x.Keys[:len(x.Keys)-1]
	}
	return api.Catalog{Tables: append(tables, api.Table{Name: "behind"})[:len(tables)]}
}

// isRoomy holds that a catalog is still that of those tables, and has still the same behind its lists' ends.
func isRoomy(t *testing.T, c api.Catalog, l ...api.Table) {
	t.Helper()
	whole := c.Tables[:len(c.Tables)+1]
	if !sameTables(c.Tables, l) || !sameTables(whole[len(l):], []api.Table{{Name: "behind"}}) {
		t.Errorf("%v", whole)
	}
	for _, x := range c.Tables {
		columns, keys := x.Columns[:len(x.Columns)+1], x.Keys[:len(x.Keys)+1]
		if columns[len(x.Columns)] != (api.Column{Name: "behind", Kind: 9}) || keys[len(x.Keys)] != 99 {
			t.Errorf("%v: %v, %v", x, columns, keys)
		}
	}
}

// spoil changes all of a catalog, and all of the room behind its lists.
func spoil(c api.Catalog) {
	tables := c.Tables[:cap(c.Tables)]
	for place, x := range tables {
		for k := range x.Columns[:cap(x.Columns)] {
			x.Columns[:cap(x.Columns)][k] = api.Column{Name: "spoiled", Kind: 77}
		}
		for k := range x.Keys[:cap(x.Keys)] {
			x.Keys[:cap(x.Keys)][k] = 77
		}
		tables[place] = api.Table{Name: "spoiled"}
	}
}

// P11.3, R3: what is handed in stays as it was; what is answered may be changed without changing that, and the other way round.
func TestNewMemory(t *testing.T) {
	for n := range api.MaxTables {
		l := few()[:n+1]
		c, one := roomy(l[:n]...), roomy(l[n])
		got, e := catalog.Add(c, one.Tables[0])
		if e != api.OK || !sameTables(got.Tables, l) {
			t.Fatal(got, e)
		}
		isRoomy(t, c, l[:n]...)
		spoil(got)
		isRoomy(t, c, l[:n]...)
		isRoomy(t, one, l[n])
		got, _ = catalog.Add(c, one.Tables[0])
		spoil(c)
		spoil(one)
		if !sameTables(got.Tables, l) {
			t.Error(got)
		}
		for place := range l {
			c, left := roomy(l...), slices.Delete(slices.Clone(l), place, place+1)
			got, e := catalog.Drop(c, l[place].Name)
			if e != api.OK || !sameTables(got.Tables, left) {
				t.Fatal(got, e)
			}
			isRoomy(t, c, l...)
			spoil(got)
			isRoomy(t, c, l...)
			got, _ = catalog.Drop(c, l[place].Name)
			spoil(c)
			if !sameTables(got.Tables, left) {
				t.Error(got)
			}
		}
	}
}

// R3: no call changes what it is handed, be it refused or not.
func TestHandedInStays(t *testing.T) {
	wrong := tab("t", "a int a int", 5, 1)
	for _, l := range [][]api.Table{nil, few()[:2], few()[:4], few()[:5], {wrong}, {few()[1], wrong, wrong}} {
		c, other, x := roomy(l...), roomy(l...), roomy(wrong)
		catalog.Check(c)
		catalog.Find(c, "u")
		catalog.Print(c)
		catalog.Same(c, other)
		catalog.Drop(c, "u")
		catalog.Add(c, x.Tables[0])
		catalog.CheckTable(x.Tables[0])
		catalog.Column(x.Tables[0], "a")
		isRoomy(t, c, l...)
		isRoomy(t, other, l...)
		isRoomy(t, x, wrong)
	}
}
