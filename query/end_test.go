package query_test

import (
	"math"
	"slices"
	"testing"

	"bowsprit/api"
)

// rowsOf are so many rows, each of so many values.
func rowsOf(count, width int) []api.Row {
	l := make([]api.Row, count)
	for k := range l {
		l[k] = slices.Repeat(api.Row{number(int64(-k))}, width)
	}
	return l
}

// P27.2: rows end a life that runs: none, one, several, of values of all kinds, with the names as they are.
func TestRows(t *testing.T) {
	for _, l := range running() {
		names := l.Program.Names
		for _, count := range []int{0, 1, 2, 5, 50} {
			ends(t, "Rows", given{Life: l, Rows: rowsOf(count, len(names))}, has(rowsOf(count, len(names)), names...))
		}
		if len(names) == 0 {
			continue
		}
		var all []api.Row
		for _, v := range rightValues() {
			r := slices.Repeat(api.Row{null}, len(names))
			ends(t, "Rows", given{Life: l, Rows: []api.Row{r}}, has([]api.Row{r}, names...))
			r[len(r)-1] = v
			all = append(all, r, r)
		}
		ends(t, "Rows", given{Life: l, Rows: all}, has(all, names...))
		slices.Reverse(all)
		ends(t, "Rows", given{Life: l, Rows: all}, has(all, names...)) // in just that order
	}
	rows := rowsOf(api.MaxList+1, 1)
	ends(t, "Rows", given{Life: runs(3, small(), "c"), Rows: rows}, has(rows, "c"))
}

// P27.2: rows of one value too few, of one too many, wherever they stand.
func TestRowsOfOtherWidths(t *testing.T) {
	for _, l := range running() {
		width := len(l.Program.Names)
		for _, other := range []int{0, width - 1, width + 1, api.MaxWidth, api.MaxWidth + 1} {
			if other == width || other < 0 {
				continue
			}
			for at := range 4 {
				rows := slices.Concat(rowsOf(at, width), rowsOf(1, other), rowsOf(3-at, width))
				refuses(t, "Rows", given{Life: l, Rows: rows}, api.ErrArg)
			}
			refuses(t, "Rows", given{Life: l, Rows: rowsOf(1, other)}, api.ErrArg)
			refuses(t, "Rows", given{Life: l, Rows: rowsOf(3, other)}, api.ErrArg)
		}
	}
	wide := runs(1, small(), make([]string, api.MaxWidth+1)...)
	refuses(t, "Rows", given{Life: wide, Rows: rowsOf(1, api.MaxWidth+1)}, api.ErrArg) // no row may be so wide
	ends(t, "Rows", given{Life: wide}, has(nil, make([]string, api.MaxWidth+1)...))
}

// P27.2: rows with a value that may not be, in each place.
func TestRowsThatMayNotBe(t *testing.T) {
	l := runs(4, small(), "a", "", "c")
	for _, v := range wrongValues() {
		refuses(t, "Rows", given{Life: runs(4, small(), "c"), Rows: []api.Row{{v}}}, api.ErrArg)
		for row := range 3 {
			for at := range 3 {
				rows := rowsOf(3, 3)
				rows[row][at] = v
				refuses(t, "Rows", given{Life: l, Rows: rows}, api.ErrArg)
			}
		}
	}
}

// errnos are numbers of all kinds, but those of what may befall a query that runs.
func errnos() []api.Errno {
	return []api.Errno{api.OK, api.ErrArg, api.ErrCancel, api.ErrReported, api.ErrLife, api.ErrFault + 1, api.ErrFault - 1, api.ErrOver + 1, api.ErrOver - 1, api.ErrName, -1, -api.ErrFault, math.MinInt, math.MaxInt, 1<<32 + api.ErrFault, 1<<32 + api.ErrOver, 4, 20}
}

// P27.2: what fails by a fault, or by too much; by nothing else.
func TestFail(t *testing.T) {
	for _, l := range running() {
		for _, e := range []api.Errno{api.ErrFault, api.ErrOver} {
			ends(t, "Fail", given{Life: l, Err: e}, failed(e, 0))
		}
		for _, e := range errnos() {
			refuses(t, "Fail", given{Life: l, Err: e}, api.ErrArg)
		}
	}
}

// P27.2: whatever runs may be cancelled.
func TestCancel(t *testing.T) {
	for _, l := range running() {
		ends(t, "Cancel", given{Life: l}, failed(api.ErrCancel, 0))
	}
}

// whatever is handed to a call that ends a life: what is right of one that runs, and what is wrong.
func whatever(l api.Life) (all []given) {
	for _, rows := range [][]api.Row{nil, rowsOf(2, len(l.Program.Names)), rowsOf(1, len(l.Program.Names)+1), {{{Kind: 9}}}} {
		for _, e := range append(errnos(), api.ErrFault, api.ErrOver) {
			all = append(all, given{Life: l, Rows: rows, Err: e})
		}
	}
	return all
}

// P27.2, P27.4: what is over, by each of its ends, ends no more, whatever else is wrong.
func TestEndsOfWhatIsOver(t *testing.T) {
	all := ended()
	for _, l := range running() {
		width := len(l.Program.Names)
		all = append(all, ends(t, "Rows", given{Life: l, Rows: rowsOf(2, width)}, has(rowsOf(2, width), l.Program.Names...)))
		all = append(all, ends(t, "Fail", given{Life: l, Err: api.ErrOver}, failed(api.ErrOver, 0)), ends(t, "Cancel", given{Life: l}, failed(api.ErrCancel, 0)))
	}
	for _, l := range all {
		for _, g := range whatever(l) {
			for _, name := range ending() {
				refuses(t, name, g, api.ErrReported)
			}
		}
	}
}

// P27.2: ErrLife goes ahead of all else, in whatever way a life may not be.
func TestEndsOfWhatMayNotBe(t *testing.T) {
	for _, l := range noLives() {
		for _, g := range whatever(l)[:30] {
			for _, name := range ending() {
				refuses(t, name, g, api.ErrLife)
			}
		}
	}
}
