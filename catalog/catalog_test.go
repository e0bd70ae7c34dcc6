package catalog_test

import (
	"math"
	"regexp"
	"slices"
	"strings"
	"testing"

	"bowsprit/api"
	"bowsprit/catalog"
)

// The kinds as the chapter writes them, and some that no column may have.
var (
	kinds   = map[string]int{"bool": api.VBool, "int": api.VInt, "text": api.VText}
	noKinds = []int{api.VNull, api.VSum, -1, 5, 256 + api.VInt, 1<<32 + api.VText, math.MaxInt, math.MinInt}
)

// language is the words as the chapter of texts writes them.
const language = "SELECT DISTINCT FROM LEFT JOIN ON WHERE GROUP BY HAVING UNION ALL ORDER LIMIT ASC DESC AS AND OR NOT IS NULL TRUE FALSE COUNT SUM MIN MAX"

// long is a name of as many bytes as there may be.
const long = "abcdefghij_12345"

// noNames are what is no name: words among them, too long ones, such with capitals, blanks and line feeds.
func noNames() []string {
	l := []string{"", " ", "A", "aB", "Ab", "1", "1a", "_a", "a b", " a", "a ", "a\n", "\na", "a-b", "a.b", "'a'", "\x00", "a\x00", "\xff", "\u00e9", "a\u0301", "a\t", long + "6", strings.Repeat("a", 1<<16)}
	for _, w := range strings.Fields(language) {
		l = append(l, w, strings.ToLower(w), w[:1]+strings.ToLower(w[1:]))
	}
	return l
}

// names are names: such as the words of lines are, and such as are nearly words of the language, among them.
func names() []string {
	return []string{"a", "z", "a0", "a_", "x__9", "table", "bool", "int", "text", "bye", "b", "byte", "by_", "by1", "selects", "as_", "null_", "true1", long, strings.Repeat("z", api.MaxName)}
}

// tab is a table whose columns are laid as a line says them. It is made without the program, as all catalogs of these tests are.
func tab(name, columns string, keys ...int) api.Table {
	t := api.Table{Name: name, Keys: keys}
	f := strings.Fields(columns)
	for k := 0; k < len(f); k += 2 {
		t.Columns = append(t.Columns, api.Column{Name: f[k], Kind: kinds[f[k+1]]})
	}
	return t
}

func cat(l ...api.Table) api.Catalog {
	return api.Catalog{Tables: l}
}

// few are tables that may be, no two of one name: more than a catalog may have.
func few() []api.Table {
	return []api.Table{
		tab("t", "a int b text", 0), tab("u", "a int"), tab("a", "a bool t text u int x text", 0, 1, 2, 3),
		tab(long, "x text "+long+" bool", 1), tab("table", "table int int int text text bool bool", 1, 3), tab("w", "a int b int c int", 0, 2),
	}
}

var nameForm = regexp.MustCompile(`\A[a-z][a-z0-9_]{0,15}\z`)

func nameByRule(s string) bool {
	return nameForm.MatchString(s) && !slices.Contains(strings.Fields(language), strings.ToUpper(s))
}

func tableByRule(t api.Table) bool {
	if !nameByRule(t.Name) || len(t.Columns) == 0 || len(t.Columns) > 4 {
		return false
	}
	seen := map[string]int{}
	for _, c := range t.Columns {
		seen[c.Name]++
		if !nameByRule(c.Name) || seen[c.Name] > 1 || c.Kind < api.VBool || c.Kind > api.VText {
			return false
		}
	}
	for place, k := range t.Keys {
		if k < 0 || k >= len(t.Columns) || place > 0 && t.Keys[place-1] >= k {
			return false
		}
	}
	return true
}

// sameTables holds tables against one another without the program.
func sameTables(a, b []api.Table) bool {
	return slices.EqualFunc(a, b, func(x, y api.Table) bool {
		return x.Name == y.Name && slices.Equal(x.Columns, y.Columns) && slices.Equal(x.Keys, y.Keys)
	})
}

// refusesTable holds of a table that may not be, in each place where one is handed in, and whatever else is wrong.
func refusesTable(t *testing.T, x api.Table) {
	t.Helper()
	if e := catalog.CheckTable(x); e != api.ErrTable {
		t.Errorf("%v: %v", x, e)
	}
	named := tab("t", "a int")
	if nameByRule(x.Name) {
		named.Name = x.Name
	}
	for _, c := range []api.Catalog{cat(), cat(few()[1]), cat(few()[:4]...), cat(named)} {
		if got, e := catalog.Add(c, x); e != api.ErrTable || len(got.Tables) != 0 {
			t.Errorf("%v with %v: %v, %v", c, x, got, e)
		}
	}
	refusesCatalog(t, cat(x))
	refusesCatalog(t, cat(tab("k", "a int"), x))
	refusesCatalog(t, cat(x, tab("k", "a int"), tab("l", "a int")))
}

// refusesCatalog holds of a catalog that may not be, for all calls, whatever else is wrong.
func refusesCatalog(t *testing.T, c api.Catalog) {
	t.Helper()
	if e := catalog.Check(c); e != api.ErrCatalog {
		t.Errorf("%v: %v", c, e)
	}
	for _, x := range append(few(), api.Table{}, tab("t", ""), tab("T", "a int")) {
		if got, e := catalog.Add(c, x); e != api.ErrCatalog || len(got.Tables) != 0 {
			t.Errorf("%v with %v: %v, %v", c, x, got, e)
		}
	}
	for _, name := range []string{"", "t", "k", "nobody", "T"} {
		if got, e := catalog.Drop(c, name); e != api.ErrCatalog || len(got.Tables) != 0 {
			t.Errorf("%v without %q: %v, %v", c, name, got, e)
		}
	}
	if s, e := catalog.Print(c); e != api.ErrCatalog || s != "" {
		t.Errorf("%v: %q, %v", c, s, e)
	}
}

// takesTable holds of a table that may be.
func takesTable(t *testing.T, x api.Table) {
	t.Helper()
	if e := catalog.CheckTable(x); e != api.OK {
		t.Errorf("%v: %v", x, e)
	}
	if e := catalog.Check(cat(x)); e != api.OK {
		t.Errorf("a catalog of %v: %v", x, e)
	}
	if got, e := catalog.Add(cat(), x); e != api.OK || !sameTables(got.Tables, []api.Table{x}) {
		t.Errorf("%v added: %v, %v", x, got, e)
	}
}

// P11.1: names of tables, and of columns at each place.
func TestNames(t *testing.T) {
	for _, name := range names() {
		takesTable(t, tab(name, "a int"))
		for place := range 4 {
			x := tab("t", "k1 int k2 bool k3 text k4 int")
			x.Columns[place].Name = name
			takesTable(t, x)
			takesTable(t, api.Table{Name: name, Columns: x.Columns[place : place+1]})
		}
	}
	for _, name := range noNames() {
		refusesTable(t, tab(name, "a int"))
		for place := range 4 {
			x := tab("t", "k1 int k2 bool k3 text k4 int")
			x.Columns[place].Name = name
			refusesTable(t, x)
			refusesTable(t, api.Table{Name: "t", Columns: x.Columns[place : place+1]})
		}
	}
}

// P11.1: each kind that a column may have, at each place, and such as none may have.
func TestKinds(t *testing.T) {
	for place := range 4 {
		x := tab("t", "a int b int c int d int")
		for _, kind := range []int{api.VBool, api.VInt, api.VText} {
			x.Columns[place].Kind = kind
			takesTable(t, x)
		}
		for _, kind := range noKinds {
			x.Columns[place].Kind = kind
			refusesTable(t, x)
		}
	}
}

// P11.1: how many columns, and none, and one too many; two of one name.
func TestColumns(t *testing.T) {
	takesTable(t, tab("t", "a int"))
	takesTable(t, tab("t", "a int b int"))
	takesTable(t, tab("t", "a int b int c int d int"))
	refusesTable(t, api.Table{Name: "t"})
	refusesTable(t, api.Table{Name: "t", Columns: []api.Column{}})
	refusesTable(t, api.Table{})
	refusesTable(t, tab("t", "a int b int c int d int e int"))
	refusesTable(t, api.Table{Name: "t", Columns: make([]api.Column, 1<<16)})
	for _, columns := range []string{"a int a int", "a int a text", "a int b int a int", "b int a int a bool", "a int b int c int a int", "a int b int c int c int", "a int a int a int a int"} {
		refusesTable(t, tab("t", columns))
	}
	takesTable(t, tab("a", "a int"))
	takesTable(t, tab("t", "a int t int", 1))
}

// P11.1: all keys of up to five places from -1 to 4, over each count of columns.
func TestKeys(t *testing.T) {
	columns := tab("t", "a int b text c bool d int").Columns
	right := 0
	var each func(keys []int)
	each = func(keys []int) {
		for count := 1; count <= 4; count++ {
			x := api.Table{Name: "t", Columns: columns[:count], Keys: slices.Clone(keys)}
			if tableByRule(x) {
				right++
				takesTable(t, x)
			} else if e := catalog.CheckTable(x); e != api.ErrTable {
				t.Errorf("%v: %v", x, e)
			}
		}
		if len(keys) < 5 {
			for k := -1; k <= 4; k++ {
				each(append(keys, k))
			}
		}
	}
	each(nil)
	if right != 2+4+8+16 {
		t.Error(right)
	}
	takesTable(t, api.Table{Name: "t", Columns: columns, Keys: []int{}})
	for _, keys := range [][]int{{-1}, {4}, {0, 0}, {1, 1}, {3, 3}, {1, 0}, {0, 2, 1}, {0, 1, 2, 3, 3}, {0, 1, 2, 3, 4}, {math.MinInt}, {math.MaxInt}, {0, math.MaxInt}, {math.MaxInt, 0}, {math.MinInt, 0}, make([]int, 1<<16)} {
		refusesTable(t, api.Table{Name: "t", Columns: columns, Keys: keys})
	}
}

// P11.1: no tables, as many as there may be, and one more; two of one name; one that may not be, at each place.
func TestCheck(t *testing.T) {
	for n := range api.MaxTables + 1 {
		if e := catalog.Check(cat(few()[:n]...)); e != api.OK {
			t.Error(n, e)
		}
	}
	if e := catalog.Check(api.Catalog{Tables: []api.Table{}}); e != api.OK {
		t.Error(e)
	}
	refusesCatalog(t, cat(few()[:api.MaxTables+1]...))
	refusesCatalog(t, cat(few()...))
	refusesCatalog(t, cat(make([]api.Table, 1<<16)...))
	for first := range 4 {
		for second := first + 1; second < 4; second++ {
			l := few()[:4]
			l[second].Name = l[first].Name
			refusesCatalog(t, cat(l...))
			refusesCatalog(t, cat(l[first], l[second]))
			l[second] = l[first]
			refusesCatalog(t, cat(l...))
		}
	}
	for place := range 4 {
		for _, x := range []api.Table{{}, tab("v", ""), tab("V", "a int"), tab("v", "a int a int"), tab("v", "a null"), tab("v", "a int", 1), tab("by", "a int")} {
			l := few()[:4]
			l[place] = x
			refusesCatalog(t, cat(l...))
		}
	}
}

// P11.1: what differs in one thing is not the same; of what may not be, too.
func TestSame(t *testing.T) {
	base := func() []api.Table { return few()[:3] }
	apart := map[string]func([]api.Table) []api.Table{
		"a table's name":    func(l []api.Table) []api.Table { l[1].Name = "v"; return l },
		"a column's name":   func(l []api.Table) []api.Table { l[2].Columns[3].Name = "y"; return l },
		"a column's kind":   func(l []api.Table) []api.Table { l[0].Columns[1].Kind = api.VInt; return l },
		"no kind":           func(l []api.Table) []api.Table { l[0].Columns[0].Kind = 7; return l },
		"columns turned":    func(l []api.Table) []api.Table { slices.Reverse(l[0].Columns); return l },
		"a column more":     func(l []api.Table) []api.Table { l[1].Columns = append(l[1].Columns, api.Column{}); return l },
		"a column less":     func(l []api.Table) []api.Table { l[2].Columns = l[2].Columns[:3]; return l },
		"no columns":        func(l []api.Table) []api.Table { l[1].Columns = nil; return l },
		"another key":       func(l []api.Table) []api.Table { l[0].Keys = []int{1}; return l },
		"a key more":        func(l []api.Table) []api.Table { l[1].Keys = []int{0}; return l },
		"a key less":        func(l []api.Table) []api.Table { l[2].Keys = l[2].Keys[:3]; return l },
		"no keys":           func(l []api.Table) []api.Table { l[0].Keys = nil; return l },
		"tables turned":     func(l []api.Table) []api.Table { slices.Reverse(l); return l },
		"a table more":      func(l []api.Table) []api.Table { return append(l, tab("v", "a int")) },
		"an empty one more": func(l []api.Table) []api.Table { return append(l, api.Table{}) },
		"a table less":      func(l []api.Table) []api.Table { return l[:2] },
		"no tables":         func(l []api.Table) []api.Table { return nil },
	}
	for what, change := range apart {
		other := cat(change(base())...)
		if catalog.Same(cat(base()...), other) || catalog.Same(other, cat(base()...)) {
			t.Error(what)
		}
		if !catalog.Same(other, other) {
			t.Error(what, "itself")
		}
	}
	for n := range len(few()) {
		if !catalog.Same(cat(few()[:n]...), cat(few()[:n]...)) {
			t.Error(n)
		}
	}
	empty := api.Table{Columns: []api.Column{}, Keys: []int{}}
	if !catalog.Same(cat(), api.Catalog{Tables: []api.Table{}}) || !catalog.Same(cat(api.Table{}), cat(empty)) || catalog.Same(cat(), cat(api.Table{})) {
		t.Error("nothing")
	}
}
