package row_test

import (
	"encoding/binary"
	"hash/crc32"
	"math"
	"slices"
	"strings"
	"testing"

	"bowsprit/api"
	"bowsprit/row"
)

// noColumns are none, however many rows there are: one is below 0, or they are too many.
func noColumns() [][]int {
	return [][]int{{-1}, {0, -1}, {-1, 0}, {math.MinInt}, {0, 0, math.MinInt}, make([]int, api.MaxWidth+1), make([]int, 1000), append(make([]int, api.MaxWidth-1), -1)}
}

// crc is the hash of bytes that are laid and summed by other code than the program's.
func crc(r api.Row) uint32 {
	var b []byte
	for _, v := range r {
		b = append(b, byte(v.Kind))
		b = binary.BigEndian.AppendUint64(b, uint64(v.N))
		b = binary.BigEndian.AppendUint64(b, v.U)
		b = append(b, byte(len(v.S)))
		b = append(b, v.S...)
	}
	return crc32.Checksum(b, crc32.MakeTable(crc32.Castagnoli))
}

// at is the row's values at columns that it has.
func at(r api.Row, columns []int) api.Row {
	out := api.Row{}
	for _, c := range columns {
		out = append(out, r[c])
	}
	return out
}

// P5.3: in the columns' order, any often.
func TestTake(t *testing.T) {
	cases := []struct {
		r       string
		columns []int
		want    string
	}{
		{"7 8 9", []int{2, 0}, "9 7"}, {"7 8 9", []int{0, 1, 2}, "7 8 9"}, {"7 8 9", []int{1}, "8"}, {"7 8 9", []int{2, 2, 1, 2}, "9 9 8 9"}, {"7 8 9", nil, "."}, {".", nil, "."}, {"7", []int{}, "."},
		{"NULL 'a T", []int{1, 2, 0, 1}, "'a T NULL 'a"}, {"7", make([]int, api.MaxWidth), strings.Repeat("7 ", api.MaxWidth)},
	}
	for _, c := range cases {
		if got, e := row.Take(one(c.r), c.columns); !slices.Equal(got, one(c.want)) || e != api.OK {
			t.Errorf("Take(%s; %v): %v, %d, not %s", c.r, c.columns, got, e, c.want)
		}
	}
	full := values()[:api.MaxWidth]
	for k, v := range full {
		back := api.MaxWidth - 1 - k
		if got, e := row.Take(full, []int{k, back}); !slices.Equal(got, api.Row{v, full[back]}) || e != api.OK {
			t.Errorf("Take of %d: %v, %d", k, got, e)
		}
	}
	sum := total(-1, math.MaxUint64)
	if got, e := row.Take(api.Row{null, sum}, []int{1}); !slices.Equal(got, api.Row{sum}) || e != api.OK {
		t.Errorf("Take of a sum: %v, %d", got, e)
	}
}

// oneRow are the calls of one row and columns; whether they answer nothing but an error.
func oneRow() map[string]func(r api.Row, columns []int) (bool, api.Errno) {
	return map[string]func(r api.Row, columns []int) (bool, api.Errno){
		"Take": func(r api.Row, columns []int) (bool, api.Errno) {
			got, e := row.Take(r, columns)
			return len(got) == 0, e
		},
		"Hash": func(r api.Row, columns []int) (bool, api.Errno) {
			got, e := row.Hash(r, columns)
			return got == 0, e
		},
	}
}

// P5.3: columns that are none, and rows that do not have them; ahead of that, a row that may not be.
func TestOneRowWrong(t *testing.T) {
	for name, call := range oneRow() {
		for _, r := range []api.Row{nil, {null}, {number(7), text("a")}, wide(api.MaxWidth, no)} {
			lacked := append(noColumns(), []int{len(r)}, []int{len(r) + 1}, []int{api.MaxWidth}, []int{math.MaxInt}, append(make([]int, api.MaxWidth-1), len(r)), []int{math.MaxInt, math.MinInt})
			for _, columns := range lacked {
				if nothing, e := call(r, columns); !nothing || e != api.ErrArg {
					t.Errorf("%s(%v; %v): %d", name, r, columns, e)
				}
			}
		}
		for _, w := range wrongRows() {
			for _, columns := range append(noColumns(), nil, []int{0}, []int{math.MaxInt}) {
				if nothing, e := call(w, columns); !nothing || e != api.ErrRow {
					t.Errorf("%s(%v; %v): %d", name, w, columns, e)
				}
			}
		}
	}
}

// P5.3: hashes that were reckoned bit by bit, apart from the program, written out.
func TestHashKnown(t *testing.T) {
	cases := []struct {
		r    api.Row
		want uint32
	}{
		{api.Row{}, 0},
		{api.Row{null}, 0xC925CD24},
		{api.Row{number(1)}, 0x1CA1B2D7},
		{api.Row{number(-1), text("ab")}, 0x926FF6EC},
		{api.Row{total(-2, 3), yes}, 0x205221DE},
	}
	for _, c := range cases {
		columns := []int{0, 1}[:len(c.r)]
		if got, e := row.Hash(c.r, columns); got != c.want || e != api.OK {
			t.Errorf("Hash(%v): %08X, %d, not %08X", c.r, got, e, c.want)
		}
	}
}

// P5.3: of all values there are, alone, in pairs and as whole rows, in whatever order the columns are named.
func TestHash(t *testing.T) {
	for _, v := range values() {
		for _, w := range values() {
			r := api.Row{v, w, number(5)}
			for _, columns := range [][]int{nil, {0}, {1}, {0, 1}, {1, 0}, {0, 0, 0}, {2, 1, 0, 1}} {
				if got, e := row.Hash(r, columns); got != crc(at(r, columns)) || e != api.OK {
					t.Fatalf("Hash(%v; %v): %08X, %d", r, columns, got, e)
				}
			}
		}
	}
	long := wide(api.MaxWidth, text(strings.Repeat("\xff", api.MaxText)))
	all := []int{15, 14, 13, 12, 11, 10, 9, 8, 7, 6, 5, 4, 3, 2, 1, 0}
	if got, e := row.Hash(long, all); got != crc(long) || e != api.OK {
		t.Errorf("the longest row: %08X, %d", got, e)
	}
}

// grouped is a group as it stands in the cases.
type grouped struct{ key, rows string }

// P5.4: written out: a group for each row of values at the columns, in their order, of each the rows, sorted.
func TestGroups(t *testing.T) {
	cases := []struct {
		l       string
		columns []int
		want    []grouped
	}{
		{"1 5 / 2 6 / 1 4", []int{0}, []grouped{{"1", "1 4 / 1 5"}, {"2", "2 6"}}},
		{"1 5 / 2 6 / 1 4", []int{1}, []grouped{{"4", "1 4"}, {"5", "1 5"}, {"6", "2 6"}}},
		{"1 5 / 2 6 / 1 4", nil, []grouped{{".", "1 4 / 1 5 / 2 6"}}},
		{"1 5 / 2 4 / 1 4", []int{1, 0}, []grouped{{"4 1", "1 4"}, {"4 2", "2 4"}, {"5 1", "1 5"}}},
		{"1 5 / 2 4 / 1 4", []int{0, 1}, []grouped{{"1 4", "1 4"}, {"1 5", "1 5"}, {"2 4", "2 4"}}},
		{"1 5 / 1 5", []int{1, 1}, []grouped{{"5 5", "1 5 / 1 5"}}},
		{"2 NULL / 1 NULL / 0 T / 3 F / 4 NULL", []int{1}, []grouped{{"NULL", "1 NULL / 2 NULL / 4 NULL"}, {"F", "3 F"}, {"T", "0 T"}}},
		{"1 2 3 / 1 2 / 1 / 0 1 2", []int{0}, []grouped{{"0", "0 1 2"}, {"1", "1 / 1 2 / 1 2 3"}}},
		{"3 'b / 1 'b / 2 'a", []int{1}, []grouped{{"'a", "2 'a"}, {"'b", "1 'b / 3 'b"}}},
		{". / 1 / .", nil, []grouped{{".", ". / . / 1"}}},
		{"1 1 9 / 1 2 8 / 1 1 7", []int{0, 1}, []grouped{{"1 1", "1 1 7 / 1 1 9"}, {"1 2", "1 2 8"}}},
		{"", []int{0}, nil}, {"", nil, nil}, {"", []int{math.MaxInt, 0}, nil},
	}
	for _, c := range cases {
		got, e := row.Groups(list(c.l), c.columns)
		if e != api.OK || !slices.EqualFunc(got, c.want, func(g api.Group, w grouped) bool {
			return slices.Equal(g.Key, one(w.key)) && same(g.Rows, list(w.rows))
		}) {
			t.Errorf("Groups(%s; %v): %v, %d, not %v", c.l, c.columns, got, e, c.want)
		}
	}
}

// P5.4, P5.5: of greater lists: the keys rise, each once; the rows are those of the key, sorted; together they are the list.
func TestGroupsAll(t *testing.T) {
	for seed := range int64(10) {
		l := shuffled(seed, 300)
		for _, columns := range [][]int{nil, {0}, {1}, {2}, {2, 1}, {1, 2}, {0, 1, 2}, {2, 1, 0}, {1, 1}} {
			got, e := row.Groups(l, columns)
			if e != api.OK || len(got) == 0 {
				t.Fatalf("Groups by %v: %v, %d", columns, got, e)
			}
			var together []api.Row
			for k, g := range got {
				if k > 0 && !ahead(got[k-1].Key, g.Key) || len(g.Rows) == 0 || !inOrder(g.Rows) {
					t.Fatalf("Groups by %v: %v", columns, got)
				}
				for _, r := range g.Rows {
					if !slices.Equal(at(r, columns), g.Key) {
						t.Fatalf("Groups by %v: %v is of %v", columns, r, g.Key)
					}
				}
				together = append(together, g.Rows...)
			}
			if !sameBag(together, l) {
				t.Fatalf("Groups by %v: together they are not the list", columns)
			}
		}
	}
}

// P5.4, P5.5: n lists, each row in that of its hash modulo n, in the order in which it stood; merged they are the list, sorted.
func TestPart(t *testing.T) {
	for seed := range int64(5) {
		l := shuffled(seed, 300)
		whole, _ := row.Sorted(l)
		for _, columns := range [][]int{nil, {0}, {2}, {2, 1}, {0, 1, 2}, {1, 1}} {
			for _, n := range []int{1, 2, 3, 5, 7, 8, 63, 64} {
				want := make([][]api.Row, n)
				for _, r := range l {
					k := int(crc(at(r, columns)) % uint32(n))
					want[k] = append(want[k], r)
				}
				got, e := row.Part(l, columns, n)
				if !slices.EqualFunc(got, want, same) || e != api.OK {
					t.Fatalf("Part by %v into %d: %v, %d", columns, n, got, e)
				}
				if merged, e := row.Merge(got...); !same(merged, whole) || e != api.OK {
					t.Fatalf("Part by %v into %d, merged: %v, %d", columns, n, merged, e)
				}
			}
		}
	}
}

// P5.4: written out: a place for each part, those of no rows among them.
func TestPartFew(t *testing.T) {
	for _, n := range []int{1, 2, 64} {
		for _, columns := range [][]int{nil, {0}, {math.MaxInt}} {
			if got, e := row.Part(nil, columns, n); len(got) != n || !slices.EqualFunc(got, make([][]api.Row, n), same) || e != api.OK {
				t.Errorf("Part of no rows into %d: %v, %d", n, got, e)
			}
		}
		got, e := row.Part(list("3 / . / 1 / 3"), nil, n)
		if len(got) != n || !same(got[0], list("3 / . / 1 / 3")) || e != api.OK {
			t.Errorf("Part by no columns into %d: %v, %d", n, got, e)
		}
	}
	// The hash of 1 is 1CA1B2D7, which is 7 modulo 8; that of 2 is 44B748C9, which is 1.
	got, e := row.Part(list("2 5 / 1 4 / 2 3"), []int{0}, 8)
	if len(got) != 8 || !same(got[7], list("1 4")) || !same(got[1], list("2 5 / 2 3")) || e != api.OK {
		t.Errorf("Part of 1 and 2: %v, %d", got, e)
	}
}

// P5.4: n below 1, and above 64.
func TestPartWrongCount(t *testing.T) {
	for _, n := range []int{0, -1, -64, math.MinInt, 65, 66, 128, 1 << 32, 1<<32 + 1, math.MaxInt} {
		for _, l := range [][]api.Row{nil, list("1 / 2")} {
			if got, e := row.Part(l, nil, n); len(got) != 0 || e != api.ErrArg {
				t.Errorf("Part into %d: %v, %d", n, got, e)
			}
			if got, e := row.Part(append(l, wide(api.MaxWidth+1, null)), nil, n); len(got) != 0 || e != api.ErrRow {
				t.Errorf("Part of a row that may not be into %d: %v, %d", n, got, e)
			}
		}
		if got, e := row.Part(slices.Repeat(list("1"), api.MaxList+1), nil, n); len(got) != 0 || e != api.ErrLong {
			t.Errorf("Part of too many rows into %d: %d", n, e)
		}
	}
}

// P5.5: rows with the same columns lie in one part, and in one group, whatever else they have.
func TestTogether(t *testing.T) {
	for _, v := range values() {
		l := []api.Row{{v, number(1)}, {null, v, v}, {v}, {v, text("a"), v}}
		l[1][0] = v
		for _, n := range []int{2, 3, 64} {
			got, e := row.Part(l, []int{0}, n)
			held := slices.DeleteFunc(got, func(l []api.Row) bool { return len(l) == 0 })
			if len(held) != 1 || !same(held[0], l) || e != api.OK {
				t.Errorf("Part of %v into %d: %v, %d", v, n, got, e)
			}
		}
		if got, e := row.Groups(l, []int{0}); len(got) != 1 || !slices.Equal(got[0].Key, api.Row{v}) || e != api.OK {
			t.Errorf("Groups of %v: %v, %d", v, got, e)
		}
	}
}

// The chapter's examples, those with columns.
func TestColumnExamples(t *testing.T) {
	got, e := row.Groups(list("1 5 / 2 6 / 1 4"), []int{0})
	if len(got) != 2 || !same([]api.Row{got[0].Key, got[1].Key}, list("1 / 2")) || !same(got[0].Rows, list("1 4 / 1 5")) || !same(got[1].Rows, list("2 6")) || e != api.OK {
		t.Error("Groups", got, e)
	}
	if got, e := row.Take(one("7 8 9"), []int{2, 0}); !slices.Equal(got, one("9 7")) || e != api.OK {
		t.Error("Take", got, e)
	}
	if got, e := row.Take(one("7"), []int{1}); len(got) != 0 || e != api.ErrArg {
		t.Error("Take", got, e)
	}
}
