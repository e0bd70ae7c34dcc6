package row_test

import (
	"math"
	"math/rand"
	"slices"
	"strconv"
	"strings"
	"testing"

	"bowsprit/api"
	"bowsprit/row"
)

// number, total and text are values, laid here without the program.
func number(n int64) api.Value {
	return api.Value{Kind: api.VInt, N: n}
}

func total(n int64, u uint64) api.Value {
	return api.Value{Kind: api.VSum, N: n, U: u}
}

func text(s string) api.Value {
	return api.Value{Kind: api.VText, S: s}
}

var (
	null = api.Value{}
	no   = api.Value{Kind: api.VBool}
	yes  = api.Value{Kind: api.VBool, N: 1}
)

// values may be, each is ahead of those behind it in the order: of each kind, with the ends of what it may be.
func values() []api.Value {
	return []api.Value{
		null, no, yes,
		number(math.MinInt64), number(-256), number(-2), number(-1), number(0), number(1), number(2), number(10), number(256), number(math.MaxInt64),
		text(""), text("\x00"), text("'"), text("10"), text("9"), text("B"), text("a"), text(strings.Repeat("a", api.MaxText)), text("ab"), text("b"), text("é"), text("\xff"),
		total(math.MinInt64, 0), total(math.MinInt64, math.MaxUint64), total(-1, 0), total(-1, math.MaxUint64), total(0, 0), total(0, 1), total(0, 1<<63), total(0, math.MaxUint64), total(1, 0), total(math.MaxInt64, math.MaxUint64),
	}
}

// wrong are values that may not be: of no kind, and of each kind with something in what does not count of it.
func wrong() []api.Value {
	return []api.Value{
		{Kind: -1}, {Kind: 5}, {Kind: 256 + api.VInt}, {Kind: math.MaxInt}, {Kind: math.MinInt}, {N: 1}, {U: 1}, {S: "a"},
		{Kind: api.VBool, N: 2}, {Kind: api.VBool, U: 1}, {Kind: api.VInt, U: 1}, {Kind: api.VInt, S: "5"},
		{Kind: api.VText, N: 1}, {Kind: api.VText, U: 1}, text(strings.Repeat("a", api.MaxText+1)), text(strings.Repeat("a", 256)), {Kind: api.VSum, S: "a"},
	}
}

// wide is a row of one value, so many times.
func wide(n int, v api.Value) api.Row {
	return slices.Repeat(api.Row{v}, n)
}

// wrongRows are rows that may not be: too wide, or with a value that may not be at some place.
func wrongRows() []api.Row {
	l := []api.Row{wide(api.MaxWidth+1, null), wide(api.MaxWidth+1, number(5)), wide(1000, null)}
	for _, v := range wrong() {
		l = append(l, api.Row{v}, api.Row{v, null}, api.Row{number(5), v}, append(wide(api.MaxWidth-1, null), v), append(wide(api.MaxWidth, null), v))
	}
	return l
}

// rising are rows that may be, each ahead of those behind it: by the first place at which they differ, and by length.
func rising() []api.Row {
	l := []api.Row{{}}
	for _, v := range values() {
		l = append(l, api.Row{v}, api.Row{v, null}, api.Row{v, null, yes}, api.Row{v, number(-5)}, api.Row{v, number(5)}, api.Row{v, number(5), text("a")}, append(api.Row{v, text("a")}, wide(api.MaxWidth-2, total(0, 5))...))
	}
	return append(l, wide(api.MaxWidth, total(math.MaxInt64, math.MaxUint64)))
}

// list reads rows as they stand in the chapter: numbers, NULL, T and F, and texts behind a quote; a slash between two rows; a dot is a row of no values.
func list(s string) []api.Row {
	var l []api.Row
	if s == "" {
		return l
	}
	for _, line := range strings.Split(s, "/") {
		r := api.Row{}
		for _, word := range strings.Fields(line) {
			switch {
			case word == ".":
			case word == "NULL":
				r = append(r, null)
			case word == "T":
				r = append(r, yes)
			case word == "F":
				r = append(r, no)
			case word[0] == '\'':
				r = append(r, text(word[1:]))
			default:
				n, err := strconv.ParseInt(word, 10, 64)
				if err != nil {
					panic(err)
				}
				r = append(r, number(n))
			}
		}
		l = append(l, r)
	}
	return l
}

// one reads a row.
func one(s string) api.Row {
	return list(s)[0]
}

// same holds lists against one another apart from the program.
func same(a, b []api.Row) bool {
	if len(a) != len(b) {
		return false
	}
	for k := range a {
		if !slices.Equal(a[k], b[k]) {
			return false
		}
	}
	return true
}

// deep is a list with rows of its own.
func deep(l []api.Row) []api.Row {
	var out []api.Row
	for _, r := range l {
		out = append(out, slices.Clone(r))
	}
	return out
}

// shuffled are some rows, each several times, in no order; the same whenever it is asked.
func shuffled(seed int64, n int) []api.Row {
	chance := rand.New(rand.NewSource(seed))
	some := values()
	var l []api.Row
	for range n {
		r := api.Row{some[chance.Intn(len(some))], some[chance.Intn(4)], number(int64(chance.Intn(3)))}
		l = append(l, r)
	}
	return l
}

// counted says of each row how often it is in the list, apart from the program.
func counted(l []api.Row) map[[api.MaxWidth + 1]api.Value]int {
	m := map[[api.MaxWidth + 1]api.Value]int{}
	for _, r := range l {
		k := [api.MaxWidth + 1]api.Value{number(int64(len(r)))}
		copy(k[1:], r)
		m[k]++
	}
	return m
}

// sameBag tells whether both have the same rows, each as often.
func sameBag(a, b []api.Row) bool {
	m := counted(b)
	for k, n := range counted(a) {
		if m[k] != n {
			return false
		}
	}
	return len(a) == len(b)
}

// inOrder tells whether no row stands behind one that comes after it, by the chapter's words, apart from the program.
func inOrder(l []api.Row) bool {
	for k := 1; k < len(l); k++ {
		if ahead(l[k], l[k-1]) {
			return false
		}
	}
	return true
}

// ahead tells whether a stands ahead of b.
func ahead(a, b api.Row) bool {
	for k := range min(len(a), len(b)) {
		x, y := a[k], b[k]
		switch {
		case x.Kind != y.Kind:
			return x.Kind < y.Kind
		case x.N != y.N:
			return x.N < y.N
		case x.U != y.U:
			return x.U < y.U
		case x.S != y.S:
			return x.S < y.S
		}
	}
	return len(a) < len(b)
}

// P5.1: rows that may be, up to 16 values, sums among them.
func TestCheck(t *testing.T) {
	l := append(rising(), nil, wide(api.MaxWidth, null), wide(api.MaxWidth, text(strings.Repeat("a", api.MaxText))))
	for _, r := range l {
		if e := row.Check(r); e != api.OK {
			t.Errorf("Check(%v): %d", r, e)
		}
	}
	for _, r := range wrongRows() {
		if e := row.Check(r); e != api.ErrRow {
			t.Errorf("Check(%v): %d", r, e)
		}
	}
}

// P5.1, P5.5: of all pairs of rows that are laid in their order Compare says how their places stand to one another: so it is one order.
func TestCompare(t *testing.T) {
	l := rising()
	for i, a := range l {
		for j, b := range l {
			want := 0
			if i < j {
				want = -1
			}
			if i > j {
				want = 1
			}
			if got := row.Compare(a, slices.Clone(b)); got != want {
				t.Errorf("Compare(%v, %v): %d, not %d", a, b, got, want)
			}
		}
	}
	if row.Compare(nil, api.Row{}) != 0 || row.Compare(nil, api.Row{null}) != -1 || row.Compare(api.Row{null}, nil) != 1 {
		t.Error("a row of no values")
	}
}

// P5.1: 0, if one may not be, wherever it stands, and however else both differ.
func TestCompareWrong(t *testing.T) {
	for _, w := range wrongRows() {
		for _, r := range []api.Row{nil, {null}, {number(5)}, {text("b")}, {total(1, 1)}, wide(api.MaxWidth, yes), w} {
			if row.Compare(w, r) != 0 || row.Compare(r, w) != 0 {
				t.Errorf("Compare of %v and %v: %d, %d", w, r, row.Compare(w, r), row.Compare(r, w))
			}
		}
	}
}

// P5.1: whether both lists are the same, row by row: the rows' order and lengths count, nil and empty are one.
func TestSame(t *testing.T) {
	lists := []string{"", ".", ". / .", "1", "1 / .", ". / 1", "1 / 1", "1 2", "1 / 2", "2 / 1", "NULL", "NULL NULL", "F", "0", "1 / 2 / 3", "1 2 / 3", "1 / 2 3", "T", "'", "'a", "'1", "'a / 'b", "-1"}
	for i, a := range lists {
		for j, b := range lists {
			if got := row.Same(list(a), list(b)); got != (i == j) {
				t.Errorf("Same(%s; %s): %v", a, b, got)
			}
		}
	}
	if !row.Same(nil, []api.Row{}) || !row.Same([]api.Row{nil}, []api.Row{{}}) || row.Same(nil, []api.Row{nil}) {
		t.Error("nil and empty")
	}
}

// P5.1: value by value: each field counts, of values that may not be, too.
func TestSameFields(t *testing.T) {
	l := append(values(), wrong()...)
	for i, v := range l {
		for j, w := range l {
			if got := row.Same([]api.Row{{null, v}}, []api.Row{{null, w}}); got != (i == j) {
				t.Errorf("Same(%v; %v): %v", v, w, got)
			}
		}
	}
	long := slices.Repeat([]api.Row{{number(5)}}, api.MaxList+1)
	if !row.Same(long, slices.Clone(long)) || row.Same(long, long[1:]) {
		t.Error("lists of more than MaxList rows")
	}
}

// P5.2: written out, rows as often as they are in the list.
func TestSorted(t *testing.T) {
	cases := []struct{ l, want string }{
		{"", ""}, {".", "."}, {"1", "1"}, {"2 / 1 / NULL", "NULL / 1 / 2"}, {"1 / 2 / 3", "1 / 2 / 3"}, {"3 / 2 / 1", "1 / 2 / 3"},
		{"1 / 1 / 1", "1 / 1 / 1"}, {"2 / 1 / 2 / 1", "1 / 1 / 2 / 2"}, {"1 NULL / 1 / . / NULL 1 / NULL / .", ". / . / NULL / NULL 1 / 1 / 1 NULL"},
		{"'b / 'a / 'ab / ' / 10 / 9 / -10 / T / F", "F / T / -10 / 9 / 10 / ' / 'a / 'ab / 'b"}, {"2 1 / 1 2 / 1 1 / 2", "1 1 / 1 2 / 2 / 2 1"},
	}
	for _, c := range cases {
		if got, e := row.Sorted(list(c.l)); !same(got, list(c.want)) || e != api.OK {
			t.Errorf("Sorted(%s): %v, %d, not %s", c.l, got, e, c.want)
		}
	}
}

// P5.2, P5.5: all rows that there are, turned about, come back into their order; what is sorted twice is sorted once.
func TestSortedAll(t *testing.T) {
	want := rising()
	chance := rand.New(rand.NewSource(5))
	for range 20 {
		l := deep(want)
		chance.Shuffle(len(l), func(i, j int) { l[i], l[j] = l[j], l[i] })
		got, e := row.Sorted(l)
		if !same(got, want) || e != api.OK {
			t.Fatalf("%v, %d", got, e)
		}
		if again, e := row.Sorted(got); !same(again, got) || e != api.OK {
			t.Fatalf("sorted twice: %v, %d", again, e)
		}
	}
	for seed := range int64(20) {
		l := shuffled(seed, 300)
		if got, e := row.Sorted(l); !inOrder(got) || !sameBag(got, l) || e != api.OK {
			t.Fatalf("Sorted of %v: %v, %d", l, got, e)
		}
	}
}

// P5.2: the same rows, each as often, in whatever order.
func TestAlike(t *testing.T) {
	cases := []struct {
		a, b string
		want bool
	}{
		{"", "", true}, {"", ".", false}, {".", ".", true}, {". / .", ".", false}, {"1 / 2", "2 / 1", true}, {"1 / 2", "1 / 2", true}, {"1 / 1 / 2", "1 / 2 / 2", false}, {"1 / 1 / 2", "2 / 1 / 1", true},
		{"1 / 2", "1 / 2 / 2", false}, {"1 / 2", "1", false}, {"1 2", "2 1", false}, {"1 2 / 3", "1 / 2 3", false}, {"1", "1 NULL", false}, {"0", "F", false}, {"NULL", ".", false}, {"NULL / 1 / 'a / T", "'a / T / NULL / 1", true}, {"1", "'1", false},
	}
	for _, c := range cases {
		for _, p := range [][2]string{{c.a, c.b}, {c.b, c.a}} {
			if got, e := row.Alike(list(p[0]), list(p[1])); got != c.want || e != api.OK {
				t.Errorf("Alike(%s; %s): %v, %d", p[0], p[1], got, e)
			}
		}
	}
	for seed := range int64(10) {
		a := shuffled(seed, 200)
		b := deep(a)
		slices.Reverse(b)
		if got, e := row.Alike(a, b); !got || e != api.OK {
			t.Errorf("turned about: %v, %d", got, e)
		}
		b[100] = append(b[100], null)
		if got, e := row.Alike(a, b); got || e != api.OK {
			t.Errorf("one row is another one: %v, %d", got, e)
		}
	}
}

// P5.2: each row once, sorted.
func TestDistinct(t *testing.T) {
	cases := []struct{ l, want string }{
		{"", ""}, {".", "."}, {". / . / .", "."}, {"1 / 2 / 1", "1 / 2"}, {"3 / 1 / 2", "1 / 2 / 3"}, {"1 / 1 / 1 / 1", "1"}, {"NULL / NULL / F / 0 / ' / F / NULL", "NULL / F / 0 / '"},
		{"1 2 / 1 / 1 2 / 1 NULL / 1", "1 / 1 NULL / 1 2"}, {"2 1 / 1 2 / 2 1", "1 2 / 2 1"}, {"2 / 2 / 1 / 3 / 3", "1 / 2 / 3"},
	}
	for _, c := range cases {
		if got, e := row.Distinct(list(c.l)); !same(got, list(c.want)) || e != api.OK {
			t.Errorf("Distinct(%s): %v, %d, not %s", c.l, got, e, c.want)
		}
	}
	for seed := range int64(10) {
		l := shuffled(seed, 400)
		got, e := row.Distinct(l)
		if e != api.OK || !inOrder(got) || len(got) != len(counted(l)) || len(got) == len(l) {
			t.Errorf("%d of %d: %d", len(got), len(l), e)
		}
		for _, n := range counted(got) {
			if n != 1 {
				t.Errorf("a row %d times", n)
			}
		}
		if len(counted(append(deep(l), got...))) != len(got) {
			t.Error("a row that was none of the list")
		}
	}
}

// P5.2: all rows of all lists, sorted, whether the lists are or not.
func TestMerge(t *testing.T) {
	cases := []struct {
		l    []string
		want string
	}{
		{nil, ""}, {[]string{""}, ""}, {[]string{"", "", ""}, ""}, {[]string{"2 / 1"}, "1 / 2"}, {[]string{"1 / 3", "2 / 4"}, "1 / 2 / 3 / 4"}, {[]string{"4 / 1", "", "3 / 2 / 1", "."}, ". / 1 / 1 / 2 / 3 / 4"},
		{[]string{"1", "1", "1"}, "1 / 1 / 1"}, {[]string{"'a", "T", "NULL", "5"}, "NULL / T / 5 / 'a"}, {[]string{".", ". / ."}, ". / . / ."},
	}
	for _, c := range cases {
		var l [][]api.Row
		for _, s := range c.l {
			l = append(l, list(s))
		}
		if got, e := row.Merge(l...); !same(got, list(c.want)) || e != api.OK {
			t.Errorf("Merge(%q): %v, %d, not %s", c.l, got, e, c.want)
		}
	}
	for seed := range int64(10) {
		a, b, c := shuffled(seed, 100), shuffled(seed+50, 7), shuffled(seed+90, 200)
		whole, _ := row.Sorted(slices.Concat(b, c, a))
		if got, e := row.Merge(a, b, c); !same(got, whole) || e != api.OK {
			t.Errorf("%v, %d, not %v", got, e, whole)
		}
	}
}

// The chapter's examples, those without columns.
func TestExamples(t *testing.T) {
	if row.Compare(one("1"), one("1 NULL")) != -1 || row.Compare(one("'a"), one("2")) != 1 {
		t.Error("Compare")
	}
	if got, e := row.Sorted(list("2 / 1 / NULL")); !same(got, list("NULL / 1 / 2")) || e != api.OK {
		t.Error("Sorted", got, e)
	}
	if got, e := row.Distinct(list("1 / 2 / 1")); !same(got, list("1 / 2")) || e != api.OK {
		t.Error("Distinct", got, e)
	}
}
