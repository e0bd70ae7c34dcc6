package plan

import (
	"bowsprit/api"
	"bowsprit/expr"
)

// pairs are columns that a join holds equal: the left one's place in the first side, the right one's in the second side.
type pairs [][2]int

// pairsOf are a condition's pairs over a first side of so many columns; none, if something of it may fault: that has to be asked of rows, too, that are not held equal.
func pairsOf(cond api.Expr, width int) pairs {
	if !expr.Safe(cond) {
		return nil
	}
	var l pairs
	for _, and := range expr.Ands(cond) {
		left, right, ok := expr.Pair(and, width)
		if ok && len(l) < api.MaxWidth {
			l = append(l, [2]int{left, right})
		}
	}
	return l
}

// partner tells the other column of the first pair that has a column as its left one (own is 0), its right one (1); below 0: there is none.
func (l pairs) partner(own int) func(col int) int {
	return func(col int) int {
		for _, pair := range l {
			if pair[own] == col {
				return pair[1-own]
			}
		}
		return -1
	}
}

// all are the left columns of all pairs (own is 0), the right ones (1).
func (l pairs) all(own int) []int {
	var cols []int
	for _, pair := range l {
		cols = append(cols, pair[own])
	}
	return cols
}
