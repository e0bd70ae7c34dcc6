package denote_test

import (
	"slices"
	"testing"

	"bowsprit/api"
	"bowsprit/denote"
	"bowsprit/logic"
)

// P15.2: the chapter's examples.
func TestExamples(t *testing.T) {
	comesTo(t, tree(filter(on(api.NGt, col(0), num(1))), tableT()), baseT(), "2")
	comesTo(t, tree(group(nil, agg(api.AggAll), agg(api.AggSum, col(0))), tableT()), baseT(), "3 3")
	comesTo(t, tree(join(true, on(api.NEq, col(0), col(1))), tableT(), tableT()), baseT(), "NULL NULL / 1 1 / 2 2")
	comesTo(t, tree(sortBy(2, down(0)), tableT()), baseT(), "2 / 1")
	refuses(t, tree(project(on(api.NDiv, num(1), on(api.NSub, col(0), num(1)))), tableT()), baseT(), api.ErrFault)
}

// P15.2: a table's rows, sorted, each as often as it stands there.
func TestScan(t *testing.T) {
	comesTo(t, tableT(), base(nil), "")
	comesTo(t, tableT(), base([]api.Row{}), "")
	comesTo(t, tableT(), base(list("3 / NULL / 1 / 3")), "NULL / 1 / 3 / 3")
	comesTo(t, table(1, mixed...), base(nil, mixedRows()), "NULL NULL NULL / NULL 'b' TRUE / 1 'a' NULL / 2 '' FALSE / 3 'a' FALSE / 3 'b' TRUE / 3 'b' TRUE")
	isRows(t, counted(12))(denote.Rows(tableT(), base(slices.Concat(counted(12)[6:], counted(6)))))
}

// P15.2: a filter leaves the rows of which it comes to true, neither false nor null.
func TestFilter(t *testing.T) {
	for _, c := range []struct {
		cond api.Expr
		want string
	}{
		{lit(null), ""}, {lit(no), ""}, {lit(yes), "NULL / 1 / 2"},
		{on(api.NEq, col(0), col(0)), "1 / 2"}, {on(api.NNe, col(0), num(1)), "2"}, {on(api.NIsNull, col(0)), "NULL"},
		{on(api.NOr, on(api.NLt, col(0), num(2)), on(api.NIsNull, col(0))), "NULL / 1"}, {on(api.NNot, on(api.NEq, col(0), num(2))), "1"},
		{on(api.NEq, col(0), lit(null)), ""}, {bad(col(0), 0), "1 / 2"},
	} {
		comesTo(t, tree(filter(c.cond), tableT()), baseT(), c.want)
		comesTo(t, tree(filter(c.cond), tableT()), base(nil), "")
	}
	truths := base(list("TRUE / NULL / FALSE / TRUE"))
	comesTo(t, tree(filter(col(0)), table(0, api.VBool)), truths, "TRUE / TRUE")
	comesTo(t, tree(filter(on(api.NNot, col(0))), table(0, api.VBool)), truths, "FALSE")
}

// P15.2: a filter is asked of all rows: one that faults is enough, whichever it is, and whatever the others come to.
func TestFilterFaults(t *testing.T) {
	for n := range int64(14) {
		for _, cond := range []api.Expr{bad(col(0), n), on(api.NAnd, lit(no), bad(col(0), n)), on(api.NAnd, bad(col(0), n), lit(no)), on(api.NOr, lit(yes), bad(col(0), n))} {
			l := tree(filter(cond), tableT())
			if 1 <= n && n <= 12 {
				refuses(t, l, base(counted(12)), api.ErrFault)
			} else if _, e := ruled(t, l, base(counted(12))); e != api.OK {
				t.Error(n, e)
			}
			comesTo(t, l, base(nil), "")
			comesTo(t, tree(project(col(0)), l), base(nil), "")
		}
	}
}

// P15.2: items of each row, from one of them to as many as there may be.
func TestProject(t *testing.T) {
	items := []api.Expr{on(api.NMul, col(0), num(2)), col(1), lit(text("x")), col(0), lit(null), on(api.NIsNull, col(2)), on(api.NNeg, col(0)), col(2)}
	comesTo(t, tree(project(items...), table(0, mixed...)), base(list("3 'b' TRUE / NULL NULL NULL / 1 'a' FALSE")),
		"NULL NULL 'x' NULL NULL TRUE NULL NULL / 2 'a' 'x' 1 NULL FALSE -1 FALSE / 6 'b' 'x' 3 NULL FALSE -3 TRUE")
	comesTo(t, tree(project(col(0)), table(0, mixed...)), base(mixedRows()), "NULL / NULL / 1 / 2 / 3 / 3 / 3")
	comesTo(t, tree(project(col(2), col(2)), table(0, mixed...)), base(mixedRows()), "NULL NULL / NULL NULL / FALSE FALSE / FALSE FALSE / TRUE TRUE / TRUE TRUE / TRUE TRUE")
	for count := 1; count <= api.MaxWidth; count++ {
		l := tree(project(slices.Repeat([]api.Expr{col(0)}, count)...), tableT())
		comesTo(t, l, base(nil), "")
		want := []api.Row{make(api.Row, count), slices.Repeat(api.Row{number(1)}, count), slices.Repeat(api.Row{number(2)}, count)}
		isRows(t, want)(denote.Rows(l, baseT()))
	}
	comesTo(t, tree(project(lit(null)), tableT()), baseT(), "NULL / NULL / NULL")
	comesTo(t, tree(project(on(api.NNeg, col(0))), tableT()), baseT(), "NULL / -2 / -1")
}

// P15.2: an item that faults of one row, at whichever place of the items.
func TestProjectFaults(t *testing.T) {
	for place := range api.MaxWidth {
		items := slices.Repeat([]api.Expr{col(0)}, api.MaxWidth)
		items[place] = on(api.NAdd, col(0), num(most-11))
		l := tree(project(items...), tableT())
		refuses(t, l, base(counted(12)), api.ErrFault)
		if _, e := ruled(t, l, base(counted(11))); e != api.OK {
			t.Error(place, e)
		}
		comesTo(t, l, base(nil), "")
	}
}

// P15.2: each row once: rows of which all are the same, that differ in one place, and in how often they stand there.
func TestDistinct(t *testing.T) {
	m := tree(distinct(), table(0, mixed...))
	comesTo(t, m, base(nil), "")
	comesTo(t, m, base(slices.Repeat(list("1 'a' TRUE"), 12)), "1 'a' TRUE")
	comesTo(t, m, base(mixedRows()), "NULL NULL NULL / NULL 'b' TRUE / 1 'a' NULL / 2 '' FALSE / 3 'a' FALSE / 3 'b' TRUE")
	comesTo(t, m, base(list("1 'a' TRUE / 1 'a' FALSE / 1 'a' NULL / 1 'b' TRUE / 1 NULL TRUE / 2 'a' TRUE / NULL 'a' TRUE / 1 'a' TRUE")),
		"NULL 'a' TRUE / 1 NULL TRUE / 1 'a' NULL / 1 'a' FALSE / 1 'a' TRUE / 1 'b' TRUE / 2 'a' TRUE")
	comesTo(t, tree(distinct(), tableT()), base(list("NULL / 1 / NULL / 1 / 1")), "NULL / 1")
}

// P15.2: the rows of both, those that both have as often as both have them.
func TestUnion(t *testing.T) {
	l := tree(union(), tableT(), table(1, api.VInt))
	comesTo(t, l, base(list("2 / NULL / 1"), list("2 / 3 / NULL")), "NULL / NULL / 1 / 2 / 2 / 3")
	comesTo(t, l, base(list("2 / 1"), nil), "1 / 2")
	comesTo(t, l, base(nil, list("2 / 1")), "1 / 2")
	comesTo(t, l, base(nil, nil), "")
	nulls := tree(project(lit(null)), tableT())
	comesTo(t, tree(union(), nulls, tableT()), baseT(), "NULL / NULL / NULL / NULL / 1 / 2")
	comesTo(t, tree(union(), nulls, table(1, api.VText)), base(list("1"), list("'b' / 'a'")), "NULL / 'a' / 'b'")
}

// P15.2: by columns, in turn, the other way round or not; then by all of the row; and the first ones alone.
func TestSorted(t *testing.T) {
	m := table(0, mixed...)
	comesTo(t, tree(sortBy(-1), m), base(mixedRows()), "NULL NULL NULL / NULL 'b' TRUE / 1 'a' NULL / 2 '' FALSE / 3 'a' FALSE / 3 'b' TRUE / 3 'b' TRUE")
	comesTo(t, tree(sortBy(-1, down(2)), m), base(mixedRows()), "NULL 'b' TRUE / 3 'b' TRUE / 3 'b' TRUE / 2 '' FALSE / 3 'a' FALSE / NULL NULL NULL / 1 'a' NULL")
	comesTo(t, tree(sortBy(-1, up(1), down(0), up(0)), m), base(mixedRows()), "NULL NULL NULL / 2 '' FALSE / 3 'a' FALSE / 1 'a' NULL / 3 'b' TRUE / 3 'b' TRUE / NULL 'b' TRUE")
	for _, limit := range []int{-1, 0, 1, 6, 7, 8, 1 << 20, api.MaxNumber} {
		for _, order := range [][]api.Ord{nil, {up(0)}, {down(2), up(1)}, {down(1), down(1), up(1)}} {
			got, _ := ruled(t, tree(sortBy(limit, order...), m), base(mixedRows()))
			if want := min(uint(limit), 7); uint(len(got)) != want {
				t.Errorf("%v: %v", limit, got)
			}
			comesTo(t, tree(sortBy(limit, order...), m), base(nil), "")
		}
	}
}

// P15.2: each operator over each other one, as either part, and those over a third.
func TestEachOverEach(t *testing.T) {
	other := list("2 'b' NULL / 3 'a' TRUE / NULL NULL FALSE / 3 'a' TRUE / 1 'c' TRUE")
	count := 0
	held := func(l api.Logic) {
		if _, e := logic.Check(l); e != api.OK {
			t.Fatal(l, e)
		}
		for _, b := range []api.Base{base(mixedRows(), other), base(other, mixedRows()), base(nil, other), base(other, nil), base(nil, nil)} {
			ruled(t, l, b)
		}
		count++
	}
	inner := each()[:8]
	roots := []api.LNode{filter(on(api.NNot, col(2))), filter(bad(col(0), 3)), project(col(1), on(api.NSub, col(0), num(9))), group([]int{2}, agg(api.AggAll), agg(api.AggSum, col(0))), group(nil, agg(api.AggMax, col(1)), agg(api.AggCount, col(0))), distinct(), sortBy(3, down(2), up(0)), sortBy(-1)}
	two := []api.LNode{join(false, on(api.NEq, col(0), col(3))), join(true, on(api.NGe, col(4), col(1))), union()}
	for _, l := range each() {
		held(l)
	}
	for _, l := range inner {
		for _, n := range roots {
			held(tree(n, l))
		}
		for _, m := range inner {
			for _, n := range two {
				held(tree(n, l, m))
				held(tree(sortBy(5, down(1)), tree(distinct(), tree(n, l, m))))
			}
		}
	}
	if count < 400 {
		t.Error(count)
	}
}
