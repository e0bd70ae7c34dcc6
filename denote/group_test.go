package denote_test

import (
	"testing"

	"bowsprit/api"
)

// all are all aggregates of a column.
func all(column int) []api.Agg {
	return []api.Agg{agg(api.AggAll), agg(api.AggCount, col(column)), agg(api.AggSum, col(column)), agg(api.AggMin, col(column)), agg(api.AggMax, col(column))}
}

// P15.2: without keys there is one group, be there rows or none; with keys there is none of no rows.
func TestGroupOfNoRows(t *testing.T) {
	comesTo(t, tree(group(nil, all(0)...), tableT()), base(nil), "0 0 NULL NULL NULL")
	comesTo(t, tree(group(nil, agg(api.AggAll)), tableT()), base(nil), "0")
	comesTo(t, tree(group([]int{}, agg(api.AggSum, col(0))), tableT()), base(nil), "NULL")
	comesTo(t, tree(group([]int{0}, all(0)...), tableT()), base(nil), "")
	comesTo(t, tree(group([]int{0}), tableT()), base(nil), "")
	none := tree(filter(lit(no)), tableT())
	comesTo(t, tree(group(nil, all(0)...), none), baseT(), "0 0 NULL NULL NULL")
	comesTo(t, tree(group([]int{0, 0}, all(0)...), none), baseT(), "")
	comesTo(t, tree(group(nil, agg(api.AggAll)), tree(group([]int{0}), none)), baseT(), "0")
	comesTo(t, tree(group([]int{0}, agg(api.AggAll)), tree(group(nil, agg(api.AggSum, col(0))), none)), baseT(), "NULL 1")
}

// P15.2: without keys all rows are one group, whatever they are.
func TestGroupOfAll(t *testing.T) {
	comesTo(t, tree(group(nil, all(0)...), tableT()), baseT(), "3 2 3 1 2")
	comesTo(t, tree(group(nil, all(0)...), tableT()), base(list("NULL / NULL")), "2 0 NULL NULL NULL")
	comesTo(t, tree(group(nil, all(0)...), tableT()), base(list("4 / 4 / 4")), "3 3 12 4 4")
	comesTo(t, tree(group(nil, all(0)...), tableT()), base(list("NULL")), "1 0 NULL NULL NULL")
}

// P15.2: by keys: each once, nulls among them; by one twice, by several, in whatever order; with aggregates and without.
func TestGroupByKeys(t *testing.T) {
	m, rows := table(0, mixed...), base(mixedRows())
	comesTo(t, tree(group([]int{0}), m), rows, "NULL / 1 / 2 / 3")
	comesTo(t, tree(group([]int{0}, agg(api.AggAll)), m), rows, "NULL 2 / 1 1 / 2 1 / 3 3")
	comesTo(t, tree(group([]int{0, 0}, agg(api.AggAll)), m), rows, "NULL NULL 2 / 1 1 1 / 2 2 1 / 3 3 3")
	comesTo(t, tree(group([]int{2, 0}, agg(api.AggCount, col(1)), agg(api.AggMax, col(1))), m), rows, "NULL NULL 0 NULL / NULL 1 1 'a' / FALSE 2 1 '' / FALSE 3 1 'a' / TRUE NULL 1 'b' / TRUE 3 2 'b'")
	comesTo(t, tree(group([]int{1, 2, 1}), m), rows, "NULL NULL NULL / '' FALSE '' / 'a' NULL 'a' / 'a' FALSE 'a' / 'b' TRUE 'b'")
	comesTo(t, tree(group([]int{1}, agg(api.AggSum, col(0)), agg(api.AggMin, col(2)), agg(api.AggMax, col(2))), m), rows, "NULL NULL NULL NULL / '' 2 FALSE FALSE / 'a' 4 FALSE FALSE / 'b' 6 TRUE TRUE")
	comesTo(t, tree(group([]int{0}, all(0)...), tableT()), base(list("NULL / NULL")), "NULL 2 0 NULL NULL NULL")
}

// P15.2: an Arg is any expression over the part's columns, a literal among them.
func TestArgs(t *testing.T) {
	m, rows := table(0, mixed...), base(mixedRows())
	comesTo(t, tree(group(nil, agg(api.AggCount, num(1)), agg(api.AggCount, lit(null)), agg(api.AggSum, num(2)), agg(api.AggSum, lit(null)), agg(api.AggMin, lit(null)), agg(api.AggMax, lit(text("x")))), m), rows, "7 0 14 NULL NULL 'x'")
	comesTo(t, tree(group([]int{2}, agg(api.AggMax, on(api.NSub, num(10), col(0))), agg(api.AggCount, on(api.NEq, col(1), lit(text("b"))))), m), rows, "NULL 9 1 / FALSE 8 2 / TRUE 7 3")
	comesTo(t, tree(group(nil, agg(api.AggMin, on(api.NIsNull, col(0))), agg(api.AggMax, on(api.NIsNull, col(0)))), m), rows, "FALSE TRUE")
}

// P15.2: an aggregate that faults of one row of one group is the whole node's fault; so is a sum of one group.
func TestGroupFaults(t *testing.T) {
	for tag := api.AggCount; tag <= api.AggMax; tag++ {
		arg := on(api.NDiv, num(1), on(api.NSub, col(0), num(7)))
		for _, keys := range [][]int{nil, {0}, {0, 0, 0}} {
			refuses(t, tree(group(keys, agg(tag, arg)), tableT()), base(counted(12)), api.ErrFault)
			refuses(t, tree(group(keys, agg(api.AggAll), agg(api.AggMin, col(0)), agg(tag, arg)), tableT()), base(counted(12)), api.ErrFault)
			if _, e := ruled(t, tree(group(keys, agg(tag, arg)), tableT()), base(counted(6))); e != api.OK {
				t.Error(e)
			}
			if keys == nil {
				continue
			}
			comesTo(t, tree(group(keys[:1], agg(tag, arg)), tableT()), base(nil), "")
		}
	}
	two, b := table(0, api.VBool, api.VInt), base(list("TRUE 9223372036854775807 / FALSE 1 / FALSE 5"))
	comesTo(t, tree(group([]int{0}, agg(api.AggSum, col(1))), two), b, "FALSE 6 / TRUE 9223372036854775807")
	refuses(t, tree(group(nil, agg(api.AggSum, col(1))), two), b, api.ErrFault)
	b.Tables[0] = append(b.Tables[0], list("TRUE 1")...)
	refuses(t, tree(group([]int{0}, agg(api.AggSum, col(1))), two), b, api.ErrFault)
	comesTo(t, tree(group([]int{0, 1}, agg(api.AggSum, col(1))), two), b, "FALSE 1 1 / FALSE 5 5 / TRUE 1 1 / TRUE 9223372036854775807 9223372036854775807")
}
