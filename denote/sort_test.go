package denote_test

import (
	"math"
	"math/rand"
	"slices"
	"testing"

	"bowsprit/api"
	"bowsprit/denote"
)

// sorts holds what rows sorted are, in whatever order they come, and who of each two stands ahead.
func sorts(t *testing.T, rows []api.Row, order []api.Ord, want []api.Row) {
	t.Helper()
	r := rand.New(rand.NewSource(1))
	for range 4 {
		isRows(t, want)(denote.Sort(rows, order, -1))
		for limit := range len(rows) + 2 {
			isRows(t, want[:min(limit, len(want))])(denote.Sort(rows, order, limit))
		}
		rows = slices.Clone(rows)
		r.Shuffle(len(rows), func(a, b int) { rows[a], rows[b] = rows[b], rows[a] })
	}
	for k, a := range want {
		for m, b := range want {
			if got := denote.Ahead(a, b, order); got != (k < m && !slices.Equal(a, b)) {
				t.Errorf("%v ahead of %v by %v: %v", a, b, order, got)
			}
		}
	}
}

// P15.3: by no columns, by one, by several, by one twice; the other way round or not; then by all of the row.
func TestSort(t *testing.T) {
	rows := list("2 'b' 1 / 1 'a' 1 / 2 'a' 1 / NULL 'b' 2 / 1 'b' 0 / 2 'b' 1 / 1 NULL 2")
	for _, c := range []struct {
		order []api.Ord
		want  string
	}{
		{nil, "NULL 'b' 2 / 1 NULL 2 / 1 'a' 1 / 1 'b' 0 / 2 'a' 1 / 2 'b' 1 / 2 'b' 1"},
		{[]api.Ord{}, "NULL 'b' 2 / 1 NULL 2 / 1 'a' 1 / 1 'b' 0 / 2 'a' 1 / 2 'b' 1 / 2 'b' 1"},
		{[]api.Ord{up(0)}, "NULL 'b' 2 / 1 NULL 2 / 1 'a' 1 / 1 'b' 0 / 2 'a' 1 / 2 'b' 1 / 2 'b' 1"},
		{[]api.Ord{down(0)}, "2 'a' 1 / 2 'b' 1 / 2 'b' 1 / 1 NULL 2 / 1 'a' 1 / 1 'b' 0 / NULL 'b' 2"},
		{[]api.Ord{up(2)}, "1 'b' 0 / 1 'a' 1 / 2 'a' 1 / 2 'b' 1 / 2 'b' 1 / NULL 'b' 2 / 1 NULL 2"},
		{[]api.Ord{up(1), down(0)}, "1 NULL 2 / 2 'a' 1 / 1 'a' 1 / 2 'b' 1 / 2 'b' 1 / 1 'b' 0 / NULL 'b' 2"},
		{[]api.Ord{down(1), up(2), down(0)}, "1 'b' 0 / 2 'b' 1 / 2 'b' 1 / NULL 'b' 2 / 2 'a' 1 / 1 'a' 1 / 1 NULL 2"},
		{[]api.Ord{down(2), down(2), up(2)}, "NULL 'b' 2 / 1 NULL 2 / 1 'a' 1 / 2 'a' 1 / 2 'b' 1 / 2 'b' 1 / 1 'b' 0"},
		{[]api.Ord{up(0), down(0), down(1)}, "NULL 'b' 2 / 1 'b' 0 / 1 'a' 1 / 1 NULL 2 / 2 'b' 1 / 2 'b' 1 / 2 'a' 1"},
	} {
		sorts(t, rows, c.order, list(c.want))
	}
	sorts(t, nil, nil, nil)
	sorts(t, list("5 / 5 / 5"), []api.Ord{down(0)}, list("5 / 5 / 5"))
}

// P15.3: the order of values: by kind, sums at last; of one kind by N, U and S. It is turned round as a whole.
func TestSortOfValues(t *testing.T) {
	sum := func(n int64, u uint64) api.Value { return api.Value{Kind: api.VSum, N: n, U: u} }
	values := []api.Value{null, no, yes, number(least), number(-1), number(0), number(most), text(""), text("B"), text("a"), text("ab"), text("b"), text("\xff"), sum(least, 0), sum(-1, 1<<63), sum(0, 1), sum(0, 1<<63), sum(1, 0)}
	var up0, down0 []api.Row
	for _, v := range values {
		up0 = append(up0, api.Row{v})
		down0 = slices.Insert(down0, 0, api.Row{v})
	}
	sorts(t, up0, nil, up0)
	sorts(t, up0, []api.Ord{up(0)}, up0)
	sorts(t, up0, []api.Ord{down(0)}, down0)
	var wide []api.Row
	for _, r := range down0 {
		wide = append(wide, api.Row{number(5), r[0], yes})
	}
	sorts(t, wide, []api.Ord{up(0), down(1)}, wide)
}

// P15.3: rows of different lengths, as long as each has the columns: the shorter one stands ahead, where it is the longer one's beginning, and that is not turned round.
func TestSortOfLengths(t *testing.T) {
	sorts(t, list("1 2 / 1 / 1 2 3 / 2 / 0 9"), nil, list("0 9 / 1 / 1 2 / 1 2 3 / 2"))
	sorts(t, list("1 2 / 1 / 1 2 3 / 2 / 0 9"), []api.Ord{down(0)}, list("2 / 1 / 1 2 / 1 2 3 / 0 9"))
	sorts(t, []api.Row{{}, {null}, {number(1)}}, nil, []api.Row{{}, {null}, {number(1)}})
	wide := slices.Repeat(api.Row{number(1)}, api.MaxWidth)
	sorts(t, []api.Row{wide, wide[:15], wide[:1]}, []api.Ord{down(0)}, []api.Row{wide[:1], wide[:15], wide})
	sorts(t, []api.Row{wide, wide}, []api.Ord{down(15), up(14), up(0)}, []api.Row{wide, wide})
}

// P15.3: as many columns as MaxKeys, and one more; columns that a row has not; what is no limit.
func TestNoSort(t *testing.T) {
	rows := list("1 2 / 3 4")
	for count := range api.MaxKeys + 3 {
		order := slices.Repeat([]api.Ord{up(1)}, count)
		if count <= api.MaxKeys {
			isRows(t, rows)(denote.Sort(rows, order, -1))
			isRows(t, nil)(denote.Sort(nil, order, -1))
		} else {
			isNone(t, api.ErrArg)(denote.Sort(rows, order, -1))
			isNone(t, api.ErrArg)(denote.Sort(nil, order, -1))
			isNone(t, api.ErrArg)(denote.Sort(nil, order, 0))
		}
	}
	for _, column := range []int{2, 3, api.MaxWidth - 1, api.MaxWidth, -1, -2, math.MaxInt, math.MinInt, 1 << 32, 256} {
		for _, o := range []api.Ord{up(column), down(column)} {
			for _, order := range [][]api.Ord{{o}, {up(0), o}, {o, up(0), down(1)}, {up(0), down(1), o}} {
				isNone(t, api.ErrArg)(denote.Sort(rows, order, -1))
				isNone(t, api.ErrArg)(denote.Sort(rows[:1], order, 0))
				if denote.Ahead(rows[0], rows[1], order) || denote.Ahead(rows[1], rows[0], order) {
					t.Errorf("ahead by %v", order)
				}
			}
		}
	}
	for _, limit := range []int{-2, -3, math.MinInt, -1 << 32} {
		isNone(t, api.ErrArg)(denote.Sort(rows, nil, limit))
		isNone(t, api.ErrArg)(denote.Sort(nil, nil, limit))
	}
	for _, limit := range []int{-1, 2, 3, api.MaxNumber, api.MaxNumber + 1, math.MaxInt} {
		isRows(t, rows)(denote.Sort(rows, nil, limit))
		isRows(t, nil)(denote.Sort(nil, nil, limit))
	}
}

// P15.3: a column that one row alone has not, wherever that row stands; of no rows none is asked for.
func TestShortRows(t *testing.T) {
	for place := range 3 {
		rows := slices.Insert(list("1 2 / 3 4"), place, api.Row{number(1)})
		isNone(t, api.ErrArg)(denote.Sort(rows, []api.Ord{up(1)}, -1))
		isNone(t, api.ErrArg)(denote.Sort(rows, []api.Ord{up(0), down(1)}, 0))
		rows[place] = nil
		isNone(t, api.ErrArg)(denote.Sort(rows, []api.Ord{up(0)}, -1))
		isRows(t, []api.Row{{}, list("1 2")[0], list("3 4")[0]})(denote.Sort(rows, nil, -1))
	}
	for _, order := range [][]api.Ord{{up(1)}, {down(1)}, {down(0), up(1)}} {
		long, short := list("1 2")[0], list("0")[0]
		if denote.Ahead(long, short, order) || denote.Ahead(short, long, order) || denote.Ahead(nil, nil, order) {
			t.Errorf("ahead by %v", order)
		}
	}
	isRows(t, nil)(denote.Sort(nil, []api.Ord{up(5), down(100)}, -1))
	isRows(t, nil)(denote.Sort([]api.Row{}, []api.Ord{up(5)}, 3))
}

// P15.3: rows that may not be, wherever they stand; none of them is ahead of another one.
func TestSortOfNoRows(t *testing.T) {
	good := list("1 2 / 3 4")
	var wrong []api.Row
	for _, v := range noValues() {
		wrong = append(wrong, api.Row{v, number(1)}, api.Row{number(2), v})
	}
	for _, r := range append(wrong, make(api.Row, api.MaxWidth+1), slices.Repeat(api.Row{number(9)}, 1<<10)) {
		for place := range 3 {
			for _, order := range [][]api.Ord{nil, {up(0)}, {down(1)}} {
				isNone(t, api.ErrArg)(denote.Sort(slices.Insert(slices.Clone(good), place, r), order, -1))
				isNone(t, api.ErrArg)(denote.Sort(slices.Insert(slices.Clone(good), place, r), order, 0))
				if denote.Ahead(r, good[0], order) || denote.Ahead(good[0], r, order) || denote.Ahead(r, r, order) {
					t.Errorf("%v ahead by %v", r, order)
				}
			}
		}
	}
}

// P15.3: as many rows as MaxList, and one more.
func TestSortOfMany(t *testing.T) {
	l := counted(api.MaxList + 1)
	turned := slices.Clone(l[:api.MaxList])
	slices.Reverse(turned)
	isRows(t, l[:api.MaxList])(denote.Sort(turned, nil, -1))
	isRows(t, turned)(denote.Sort(l[:api.MaxList], []api.Ord{down(0)}, -1))
	isRows(t, l[:5])(denote.Sort(turned, nil, 5))
	isNone(t, api.ErrArg)(denote.Sort(l, nil, -1))
	isNone(t, api.ErrArg)(denote.Sort(l, []api.Ord{down(0)}, 0))
	isNone(t, api.ErrArg)(denote.Sort(make([]api.Row, 1<<20), nil, 1))
}

// P15.3: who stands ahead of whom; of rows that are the same none does.
func TestAhead(t *testing.T) {
	r := rand.New(rand.NewSource(151))
	seen := map[bool]int{}
	for range 20000 {
		a, b := make(api.Row, 3+r.Intn(2)), make(api.Row, 3+r.Intn(2))
		for _, x := range []api.Row{a, b} {
			for k := range x {
				x[k] = valueOf[r.Intn(len(valueOf))]
				if x[k].Kind == api.VInt {
					x[k].N -= int64(r.Intn(2))
				}
			}
		}
		var order []api.Ord
		for range r.Intn(4) {
			order = append(order, api.Ord{Col: r.Intn(3), Desc: r.Intn(2) == 0})
		}
		got := denote.Ahead(a, b, order)
		seen[got]++
		if got != aheadByRule(a, b, order) || got && denote.Ahead(b, a, order) || denote.Ahead(a, a, order) || denote.Ahead(a, copyOf(a), order) {
			t.Fatalf("%v ahead of %v by %v: %v", a, b, order, got)
		}
		isRows(t, sortByRule([]api.Row{a, b}, order, -1))(denote.Sort([]api.Row{a, b}, order, -1))
	}
	if seen[true] < 5000 || seen[false] < 5000 {
		t.Error(seen)
	}
}
