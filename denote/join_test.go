package denote_test

import (
	"slices"
	"testing"

	"bowsprit/api"
	"bowsprit/denote"
)

// t and u are two tables of one column each.
func tAndU(left bool, cond api.Expr) api.Logic {
	return tree(join(left, cond), tableT(), table(1, api.VInt))
}

// P15.2: for each row of A and each of B the one behind the other, where the condition is true; where it is null or false, none.
func TestJoin(t *testing.T) {
	b := base(list("1 / 2 / NULL / 2"), list("2 / 3 / NULL"))
	for _, c := range []struct {
		cond       api.Expr
		want, left string
	}{
		{lit(null), "", "NULL NULL / 1 NULL / 2 NULL / 2 NULL"},
		{lit(no), "", "NULL NULL / 1 NULL / 2 NULL / 2 NULL"},
		{lit(yes), "NULL NULL / NULL 2 / NULL 3 / 1 NULL / 1 2 / 1 3 / 2 NULL / 2 NULL / 2 2 / 2 2 / 2 3 / 2 3", "NULL NULL / NULL 2 / NULL 3 / 1 NULL / 1 2 / 1 3 / 2 NULL / 2 NULL / 2 2 / 2 2 / 2 3 / 2 3"},
		{on(api.NEq, col(0), col(1)), "2 2 / 2 2", "NULL NULL / 1 NULL / 2 2 / 2 2"},
		{on(api.NLt, col(0), col(1)), "1 2 / 1 3 / 2 3 / 2 3", "NULL NULL / 1 2 / 1 3 / 2 3 / 2 3"},
		{on(api.NIsNull, col(1)), "NULL NULL / 1 NULL / 2 NULL / 2 NULL", "NULL NULL / 1 NULL / 2 NULL / 2 NULL"},
		{on(api.NIsNull, col(0)), "NULL NULL / NULL 2 / NULL 3", "NULL NULL / NULL 2 / NULL 3 / 1 NULL / 2 NULL / 2 NULL"},
		{on(api.NAnd, on(api.NEq, col(0), num(1)), on(api.NEq, col(1), num(2))), "1 2", "NULL NULL / 1 2 / 2 NULL / 2 NULL"},
	} {
		comesTo(t, tAndU(false, c.cond), b, c.want)
		comesTo(t, tAndU(true, c.cond), b, c.left)
	}
}

// P15.2: of no rows on either side: nothing, but for the rows of A, if the join is Left.
func TestJoinOfNoRows(t *testing.T) {
	some := list("2 / NULL")
	for _, cond := range []api.Expr{lit(yes), lit(no), lit(null), on(api.NEq, col(0), col(1)), bad(col(0), 2), on(api.NAnd, lit(no), bad(num(0), 0))} {
		for _, left := range []bool{false, true} {
			comesTo(t, tAndU(left, cond), base(nil, nil), "")
			comesTo(t, tAndU(left, cond), base(nil, some), "")
		}
		comesTo(t, tAndU(false, cond), base(some, nil), "")
		comesTo(t, tAndU(true, cond), base(some, nil), "NULL NULL / 2 NULL")
	}
}

// P15.2: behind a row of A that found none stand as many nulls as B has columns, whatever B is, and though it has no rows.
func TestNullsOfLeftJoin(t *testing.T) {
	for width := 1; width < api.MaxWidth; width++ {
		wide := tree(project(slices.Repeat([]api.Expr{lit(yes)}, width)...), table(1, api.VInt))
		b := base(list("5"), list("1"))
		for _, rows := range [][]api.Row{nil, list("1")} {
			b.Tables[1] = rows
			want := []api.Row{slices.Concat(api.Row{number(5)}, make(api.Row, width))}
			l := tree(join(true, lit(no)), tableT(), wide)
			isRows(t, want)(denote.Rows(l, b))
			ruled(t, l, b)
		}
	}
	b := base(list("5"), nil)
	ofGroup := tree(group([]int{0}, agg(api.AggAll), agg(api.AggMin, col(0))), table(1, api.VInt))
	comesTo(t, tree(join(true, lit(yes)), tableT(), ofGroup), b, "5 NULL NULL NULL")
	ofJoin := tAndU(false, lit(yes))
	comesTo(t, tree(join(true, lit(yes)), tableT(), ofJoin), b, "5 NULL NULL")
	comesTo(t, tree(join(true, lit(no)), tableT(), tree(union(), ofJoin, tAndU(true, lit(yes)))), b, "5 NULL NULL")
	comesTo(t, tree(join(true, lit(no)), tableT(), tree(distinct(), tree(filter(lit(no)), table(1, api.VInt, api.VText, api.VBool, api.VInt)))), b, "5 NULL NULL NULL NULL")
}

// P15.2: the columns of A stand ahead of those of B; rows that are the same find each other as often as there are.
func TestJoinOfMany(t *testing.T) {
	a, b := table(0, api.VInt, api.VText), table(1, api.VText, api.VBool, api.VInt)
	rows := base(list("1 'x' / 1 'x' / 2 'y' / 3 NULL"), list("'x' TRUE 7 / 'x' TRUE 7 / 'y' FALSE 8 / NULL NULL 9"))
	cond := on(api.NEq, col(1), col(2))
	comesTo(t, tree(join(false, cond), a, b), rows, "1 'x' 'x' TRUE 7 / 1 'x' 'x' TRUE 7 / 1 'x' 'x' TRUE 7 / 1 'x' 'x' TRUE 7 / 2 'y' 'y' FALSE 8")
	comesTo(t, tree(join(true, cond), a, b), rows, "1 'x' 'x' TRUE 7 / 1 'x' 'x' TRUE 7 / 1 'x' 'x' TRUE 7 / 1 'x' 'x' TRUE 7 / 2 'y' 'y' FALSE 8 / 3 NULL NULL NULL NULL")
	comesTo(t, tree(join(true, on(api.NLt, col(2), num(8))), b, a), rows, "NULL NULL 9 NULL NULL / 'x' TRUE 7 1 'x' / 'x' TRUE 7 1 'x' / 'x' TRUE 7 1 'x' / 'x' TRUE 7 1 'x' / 'x' TRUE 7 2 'y' / 'x' TRUE 7 2 'y' / 'x' TRUE 7 3 NULL / 'x' TRUE 7 3 NULL / 'y' FALSE 8 NULL NULL")
}

// P15.2: the condition is asked of all pairs: one that faults is enough, whichever it is.
func TestOnePairFaults(t *testing.T) {
	b := base(counted(12), counted(12))
	pair := on(api.NAdd, on(api.NMul, col(0), num(100)), col(1))
	for _, left := range []bool{false, true} {
		for _, first := range []int64{1, 2, 7, 11, 12} {
			for _, second := range []int64{1, 5, 12} {
				for _, cond := range []api.Expr{bad(pair, first*100+second), on(api.NOr, lit(yes), bad(pair, first*100+second)), on(api.NAnd, bad(pair, first*100+second), lit(no))} {
					refuses(t, tAndU(left, cond), b, api.ErrFault)
				}
			}
		}
		for _, none := range []int64{0, 100, 113, 1300, 1301} {
			if _, e := ruled(t, tAndU(left, bad(pair, none)), b); e != api.OK {
				t.Error(none, e)
			}
		}
	}
}

// P15.2: a row of A may find some rows of B, and another one none.
func TestLeftJoinOfSome(t *testing.T) {
	b := base(counted(4), counted(3))
	comesTo(t, tAndU(true, on(api.NEq, on(api.NAdd, col(0), col(1)), num(4))), b, "1 3 / 2 2 / 3 1 / 4 NULL")
	comesTo(t, tAndU(true, on(api.NGt, on(api.NMul, col(0), col(1)), num(5))), b, "1 NULL / 2 3 / 3 2 / 3 3 / 4 2 / 4 3")
}
