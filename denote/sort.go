package denote

import (
	"slices"

	"bowsprit/api"
	"bowsprit/row"
)

// lacksOf tells of a row whether it may not be, or has not the columns of an order.
func lacksOf(order []api.Ord) func(api.Row) bool {
	return func(r api.Row) bool {
		isNoColumn := func(o api.Ord) bool { return o.Col < 0 || o.Col >= len(r) }
		return row.Check(r) != api.OK || slices.ContainsFunc(order, isNoColumn)
	}
}

// ordering holds rows that may be, and have the columns, against one another: column by column, then as rows.
func ordering(order []api.Ord) func(a, b api.Row) int {
	return func(a, b api.Row) int {
		for _, o := range order {
			c := row.Compare(a[o.Col:o.Col+1], b[o.Col:o.Col+1])
			if c != 0 && o.Desc {
				return -c
			}
			if c != 0 {
				return c
			}
		}
		return row.Compare(a, b)
	}
}

// Sort (P15.3) leaves it to row.Sorted to count the rows: those are asked already, so it refuses nothing else.
func Sort(rows []api.Row, order []api.Ord, limit int) ([]api.Row, api.Errno) {
	if len(order) > api.MaxKeys || limit < -1 || slices.ContainsFunc(rows, lacksOf(order)) {
		return nil, api.ErrArg
	}
	l, e := row.Sorted(rows)
	if e != api.OK {
		return nil, api.ErrArg
	}
	slices.SortFunc(l, ordering(order))
	if limit >= 0 && limit < len(l) {
		l = slices.Clip(l[:limit])
	}
	return l, api.OK
}

// Ahead: P15.3.
func Ahead(a, b api.Row, order []api.Ord) bool {
	lacks := lacksOf(order)
	return !lacks(a) && !lacks(b) && ordering(order)(a, b) < 0
}
