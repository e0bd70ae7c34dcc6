package place_test

import (
	"math"
	"slices"
	"strconv"
	"strings"

	"bowsprit/api"
)

// Values, rows, catalogs, databases and layouts are made without the program.
var (
	null = api.Value{}
	no   = api.Value{Kind: api.VBool}
	yes  = api.Value{Kind: api.VBool, N: 1}
)

func number(n int64) api.Value {
	return api.Value{Kind: api.VInt, N: n}
}

func text(s string) api.Value {
	return api.Value{Kind: api.VText, S: s}
}

// valueOf is a value of each kind, the kinds' numbers being its places.
var valueOf = []api.Value{null, yes, number(5), text("a"), {Kind: api.VSum, N: 1, U: 2}}

// noValues are values that may not be.
func noValues() []api.Value {
	return []api.Value{
		{N: 1}, {U: 1}, {S: "a"}, {Kind: -1}, {Kind: api.VSum + 1}, {Kind: math.MaxInt}, {Kind: math.MinInt},
		{Kind: api.VBool, N: 2}, {Kind: api.VBool, N: -1}, {Kind: api.VBool, U: 1}, {Kind: api.VBool, S: "a"},
		{Kind: api.VInt, U: 1}, {Kind: api.VInt, S: "1"},
		{Kind: api.VText, N: 1}, {Kind: api.VText, U: 1}, text(strings.Repeat("x", api.MaxText+1)),
		{Kind: api.VSum, S: "a"},
	}
}

// written is the value that a word writes.
func written(word string) api.Value {
	switch {
	case word == "NULL":
		return null
	case word == "FALSE":
		return no
	case word == "TRUE":
		return yes
	case word[0] == '\'':
		return text(word[1 : len(word)-1])
	}
	n, e := strconv.ParseInt(word, 10, 64)
	if e != nil {
		panic(word)
	}
	return number(n)
}

// list is rows as they are written: a stroke between each two of them, blanks between values.
func list(s string) []api.Row {
	var l []api.Row
	if s == "" {
		return l
	}
	for _, line := range strings.Split(s, "/") {
		r := api.Row{}
		for _, word := range strings.Fields(line) {
			r = append(r, written(word))
		}
		l = append(l, r)
	}
	return l
}

// one is a row as it is written.
func one(s string) api.Row {
	return list(s)[0]
}

// counted are rows of one number each, from 1 on.
func counted(count int) []api.Row {
	l := make([]api.Row, count)
	for k := range l {
		l[k] = api.Row{number(int64(k + 1))}
	}
	return l
}

func base(tables ...[]api.Row) api.Base {
	return api.Base{Tables: tables}
}

func layout(parts ...api.Base) api.Layout {
	return api.Layout{Parts: parts}
}

// tab is a table whose columns are laid as a line of a catalog says them.
func tab(name, columns string, keys ...int) api.Table {
	kinds := map[string]int{"bool": api.VBool, "int": api.VInt, "text": api.VText}
	t := api.Table{Name: name, Keys: keys}
	f := strings.Fields(columns)
	for k := 0; k < len(f); k += 2 {
		t.Columns = append(t.Columns, api.Column{Name: f[k], Kind: kinds[f[k+1]]})
	}
	return t
}

func cat(tables ...api.Table) api.Catalog {
	return api.Catalog{Tables: tables}
}

// chapters is the chapter's own catalog.
func chapters() api.Catalog {
	return cat(tab("t", "a int", 0), tab("u", "b int"))
}

// mixed are the columns of a table that has all kinds, and mixedRows are rows of it.
const mixed = "a int b text c bool d int"

func mixedRows() []api.Row {
	return list("3 'b' TRUE 0 / 1 'a' NULL -1 / 3 'b' TRUE 0 / NULL NULL NULL NULL / 2 '' FALSE 7 / 3 'a' FALSE NULL / NULL 'b' TRUE 9 / -9223372036854775808 NULL FALSE 9223372036854775807")
}

// several has tables with Keys of one column, of two, of all, and without Keys, side by side: MaxTables of them.
func several() api.Catalog {
	return cat(tab("t", mixed, 1), tab("u", mixed, 0, 3), tab("v", mixed, 0, 1, 2, 3), tab("w", mixed))
}

// catalogs are catalogs that may be, of no table to MaxTables of them.
func catalogs() []api.Catalog {
	return []api.Catalog{
		cat(), {Tables: []api.Table{}}, chapters(), several(),
		cat(tab("t", "a int", 0)), cat(tab("u", "b int")), cat(tab("t", mixed, 2)), cat(tab("w", mixed), tab("x", mixed), tab("y", "a bool")),
		cat(tab("w", mixed), tab("v", "a text b text", 0, 1), tab("x", "a int"), tab("t", mixed, 3)),
	}
}

// noCatalogs are catalogs that may not be.
func noCatalogs() []api.Catalog {
	ordinary := tab("t", "a int")
	wide := tab("t", mixed)
	wide.Columns = append(wide.Columns, api.Column{Name: "e", Kind: api.VInt})
	return []api.Catalog{
		cat(tab("", "a int")), cat(tab("T", "a int")), cat(ordinary, ordinary), cat(tab("t", "")), cat(wide),
		cat(tab("t", "a sum")), cat(tab("t", "a int a int")), cat(tab("t", "a int", 1)), cat(tab("t", "a int", -1)), cat(tab("t", mixed, 1, 0)), cat(tab("t", mixed, 1, 1)),
		cat(ordinary, tab("u", "a int"), tab("v", "a int"), tab("w", "a int"), tab("x", "a int")),
	}
}

// bare is a layout without rows.
func bare(c api.Catalog, nodes int) api.Layout {
	var l api.Layout
	for range nodes {
		l.Parts = append(l.Parts, base(make([][]api.Row, len(c.Tables))...))
	}
	return l
}

// counts are counts of nodes that may be, and noCounts such as may not.
var (
	counts   = []int{1, 2, 3, 7, 8}
	noCounts = []int{0, 9, -1, -8, 10, 64, math.MaxInt, math.MinInt, math.MinInt + 1, 1<<32 + 1, 1 << 32, 1<<40 + 2}
)

// nowhere are numbers that are no place of a list of that many.
func nowhere(count int) []int {
	return []int{count, count + 1, -1, -2, -count - 1, math.MaxInt, math.MinInt, 1 << 32, 1<<32 + 1}
}

// with is a list with another thing at a place of it.
func with[T any](l []T, at int, x T) []T {
	l = slices.Clone(l)
	l[at] = x
	return l
}
