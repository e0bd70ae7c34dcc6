package row_test

import (
	"slices"
	"testing"

	"bowsprit/api"
	"bowsprit/row"
)

// listCall is a call of a list, and of columns, if it takes any: what it answers is laid out as lists of rows, none beside nothing.
type listCall struct {
	name    string
	columns bool
	call    func(l []api.Row, columns []int) ([][]api.Row, api.Errno)
}

// plain lays out what a call without columns answers.
func plain(got []api.Row, e api.Errno) ([][]api.Row, api.Errno) {
	if len(got) == 0 {
		return nil, e
	}
	return [][]api.Row{got}, e
}

// alike lays out whether two lists are alike as one list, or none.
func alike(a, b []api.Row) ([][]api.Row, api.Errno) {
	yes, e := row.Alike(a, b)
	if !yes {
		return nil, e
	}
	return [][]api.Row{nil}, e
}

// listCalls are all calls that take lists and answer an Errno, with the list at each place at which one stands.
func listCalls() []listCall {
	few := list("5 5 / 6 6")
	return []listCall{
		{"Sorted", false, func(l []api.Row, _ []int) ([][]api.Row, api.Errno) { return plain(row.Sorted(l)) }},
		{"Distinct", false, func(l []api.Row, _ []int) ([][]api.Row, api.Errno) { return plain(row.Distinct(l)) }},
		{"Merge", false, func(l []api.Row, _ []int) ([][]api.Row, api.Errno) { return plain(row.Merge(l)) }},
		{"Merge, behind no rows", false, func(l []api.Row, _ []int) ([][]api.Row, api.Errno) { return plain(row.Merge(nil, l, nil)) }},
		{"Alike, the first", false, func(l []api.Row, _ []int) ([][]api.Row, api.Errno) { return alike(l, few) }},
		{"Alike, the second", false, func(l []api.Row, _ []int) ([][]api.Row, api.Errno) { return alike(few, l) }},
		{"Alike, both", false, func(l []api.Row, _ []int) ([][]api.Row, api.Errno) { return alike(l, l) }},
		{"Groups", true, func(l []api.Row, columns []int) ([][]api.Row, api.Errno) {
			got, e := row.Groups(l, columns)
			var out [][]api.Row
			for _, g := range got {
				out = append(out, []api.Row{g.Key}, g.Rows)
			}
			return out, e
		}},
		{"Part", true, func(l []api.Row, columns []int) ([][]api.Row, api.Errno) { return row.Part(l, columns, 4) }},
	}
}

// refuses asks for an error, and for nothing beside it.
func refuses(t *testing.T, c listCall, l []api.Row, columns []int, e api.Errno) {
	t.Helper()
	if got, f := c.call(l, columns); len(got) != 0 || f != e {
		t.Errorf("%s of %d rows, by %v: %d lists, %d, not %d", c.name, len(l), columns, len(got), f, e)
	}
}

// P5.2, P5.4: ErrRow goes ahead of all else: of whichever row, in a list of too many, and beside columns that are none.
func TestRowErrorFirst(t *testing.T) {
	long := slices.Repeat(list("1 2"), api.MaxList+1)
	for _, c := range listCalls() {
		for _, w := range wrongRows() {
			for _, columns := range append(noColumns(), nil, []int{7}) {
				refuses(t, c, []api.Row{w}, columns, api.ErrRow)
				refuses(t, c, append(list("1 2 / 3 4"), w), columns, api.ErrRow)
				refuses(t, c, append([]api.Row{w}, list("1 2 / 3 4")...), columns, api.ErrRow)
			}
		}
		for _, k := range []int{0, api.MaxList - 1, api.MaxList} {
			l := slices.Clone(long)
			l[k] = wide(api.MaxWidth+1, null)
			refuses(t, c, l, []int{-1}, api.ErrRow)
			l[k] = api.Row{{Kind: 5}}
			refuses(t, c, l, []int{7}, api.ErrRow)
		}
	}
}

// P5.2, P5.4: 8000 rows are taken, one more is not; that goes ahead of columns that are none, and of rows that do not have them.
func TestLongLists(t *testing.T) {
	full := slices.Repeat(list("1 2"), api.MaxList)
	long := append(slices.Clone(full), one("1 2"))
	for _, c := range listCalls() {
		if _, e := c.call(full, []int{0}); e != api.OK {
			t.Errorf("%s of %d rows: %d", c.name, len(full), e)
		}
		for _, columns := range append(noColumns(), nil, []int{0}, []int{7}) {
			refuses(t, c, long, columns, api.ErrLong)
		}
	}
}

// P5.2: of several lists: ErrRow of one goes ahead of ErrLong of another one.
func TestErrorsOfSeveral(t *testing.T) {
	long := slices.Repeat(list("1"), api.MaxList+1)
	wrong := []api.Row{{{Kind: 5}}}
	for _, p := range [][2][]api.Row{{long, wrong}, {wrong, long}, {wrong, nil}, {nil, wrong}, {wrong, wrong}} {
		if got, e := row.Alike(p[0], p[1]); got || e != api.ErrRow {
			t.Errorf("Alike of %d and %d rows: %v, %d", len(p[0]), len(p[1]), got, e)
		}
		if got, e := row.Merge(p[0], nil, p[1]); len(got) != 0 || e != api.ErrRow {
			t.Errorf("Merge of %d and %d rows: %d", len(p[0]), len(p[1]), e)
		}
	}
}

// P5.2: lists are counted together for Merge, each alone for Alike.
func TestLongTogether(t *testing.T) {
	half := slices.Repeat(list("1"), api.MaxList/2)
	full := slices.Concat(half, half)
	for _, l := range [][][]api.Row{{half, half}, {full}, {full, nil}, {nil, half, nil, half}} {
		if got, e := row.Merge(l...); !same(got, full) || e != api.OK {
			t.Errorf("Merge of %d lists: %d rows, %d", len(l), len(got), e)
		}
	}
	wrong := []api.Row{{{Kind: 5}}}
	for _, l := range [][][]api.Row{{half, half, list("1")}, {list("."), full}, {full, full}, {half, nil, half, half}} {
		if got, e := row.Merge(l...); len(got) != 0 || e != api.ErrLong {
			t.Errorf("Merge of %d lists: %d rows, %d", len(l), len(got), e)
		}
		if got, e := row.Merge(append(l, wrong)...); len(got) != 0 || e != api.ErrRow {
			t.Errorf("Merge of %d lists, and a row that may not be: %d rows, %d", len(l), len(got), e)
		}
	}
	if got, e := row.Merge(slices.Repeat([][]api.Row{list("1")}, api.MaxList)...); !same(got, full) || e != api.OK {
		t.Errorf("Merge of many lists: %d rows, %d", len(got), e)
	}
	if got, e := row.Merge(slices.Repeat([][]api.Row{list("1")}, api.MaxList+1)...); len(got) != 0 || e != api.ErrLong {
		t.Errorf("Merge of many lists, and one more: %d rows, %d", len(got), e)
	}
	if got, e := row.Alike(full, slices.Clone(full)); !got || e != api.OK {
		t.Errorf("Alike of two full lists: %v, %d", got, e)
	}
}

// P5.4: columns that are none are refused with no rows, too; of columns that are, each row has to have them.
func TestListColumnsWrong(t *testing.T) {
	for _, c := range listCalls() {
		if !c.columns {
			continue
		}
		for _, columns := range noColumns() {
			refuses(t, c, nil, columns, api.ErrArg)
			refuses(t, c, list("1 2 / 3 4"), columns, api.ErrArg)
			refuses(t, c, list(". / ."), columns, api.ErrArg)
		}
		for _, s := range []string{"1 2 / 3", "3 / 1 2", "1 2 / . / 3 4", "1 / 1", "1 2 / 1 2 / 1 2 / 1"} {
			refuses(t, c, list(s), []int{1}, api.ErrArg)
			refuses(t, c, list(s), []int{0, 1, 0}, api.ErrArg)
		}
		if _, e := c.call(list("1 2 / 3 4 5"), []int{1}); e != api.OK {
			t.Errorf("%s of rows of several lengths: %d", c.name, e)
		}
		if _, e := c.call(list("1 2 / 3 4"), make([]int, api.MaxWidth)); e != api.OK {
			t.Errorf("%s by %d columns: %d", c.name, api.MaxWidth, e)
		}
	}
}

// room is a list with room behind its end, and behind those of its rows: it is full of what is to stay.
func room() (l, whole []api.Row) {
	for _, r := range list("3 1 9 / 1 2 9 / 2 1 9 / 1 2 9 / 9 9 9 / 9 9 9 / 9 9 9") {
		whole = append(whole, r[:2])
	}
	return whole[:4], whole
}

// spread is all that a list may reach: the rows behind its end, and the values behind theirs.
func spread(whole []api.Row) []api.Row {
	var out []api.Row
	for _, r := range whole {
		out = append(out, slices.Clone(r[:3]))
	}
	return out
}

// P5.2, P5.4, R3: nothing that is handed in is changed, the room behind it neither, and what is done to an answer does not reach it, nor another list of that answer.
func TestNewMemory(t *testing.T) {
	for _, c := range listCalls() {
		l, whole := room()
		columns := []int{1, 0, 7, 7}
		before := spread(whole)
		got, e := c.call(l, columns[:2])
		if e != api.OK || !same(spread(whole), before) || !slices.Equal(columns, []int{1, 0, 7, 7}) {
			t.Fatalf("%s: changed: %v, %v, %d", c.name, spread(whole), columns, e)
		}
		for k := range got {
			others := deep(slices.Concat(slices.Concat(got[:k]...), slices.Concat(got[k+1:]...)))
			for _, r := range append(got[k], one("8 8")) {
				clear(append(r, number(8)))
			}
			clear(append(got[k], nil))
			if !same(spread(whole), before) || !same(slices.Concat(slices.Concat(got[:k]...), slices.Concat(got[k+1:]...)), others) {
				t.Fatalf("%s: the answer's list %d reaches further than itself", c.name, k)
			}
		}
	}
}

// P5.3, R3: so of one row.
func TestTakeNewMemory(t *testing.T) {
	r, columns := one("7 8 9")[:2], []int{0, 1, 7}
	got, e := row.Take(r, columns[:2])
	if e != api.OK {
		t.Fatal(e)
	}
	clear(append(got, null))
	if !slices.Equal(r[:3], one("7 8 9")) || !slices.Equal(columns, []int{0, 1, 7}) {
		t.Errorf("changed: %v, %v", r[:3], columns)
	}
	if _, e := row.Hash(r, columns[:2]); e != api.OK || !slices.Equal(r[:3], one("7 8 9")) {
		t.Errorf("changed by Hash: %v, %d", r[:3], e)
	}
	row.Compare(r, r)
	row.Same([]api.Row{r}, []api.Row{r})
	if !slices.Equal(r[:3], one("7 8 9")) {
		t.Errorf("changed by Compare or Same: %v", r[:3])
	}
}

// R5: what is answered is the same each time.
func TestSameEachTime(t *testing.T) {
	l := shuffled(5, 200)
	for _, c := range listCalls() {
		first, _ := c.call(l, []int{0, 2})
		for range 5 {
			if again, _ := c.call(deep(l), []int{0, 2}); !slices.EqualFunc(again, first, same) {
				t.Errorf("%s: another answer", c.name)
			}
		}
	}
}
