package query_test

import (
	"math"
	"strings"
	"testing"

	"bowsprit/api"
)

// P27.3: of what runs nothing is told.
func TestTextOfWhatRuns(t *testing.T) {
	for _, l := range running() {
		reads(t, l, "")
	}
}

// P27.3: of rows how many there are, and a line of each; none, one, several, of values of all kinds.
func TestTextOfRows(t *testing.T) {
	reads(t, over(1, api.Report{}), "ok 0\n")
	reads(t, over(1, has(nil, "a", "b")), "ok 0\n")
	reads(t, over(2, has(list("5"), "a")), "ok 1\n5\n")
	reads(t, over(2, has(list("2 / 1 / 1"), "")), "ok 3\n2\n1\n1\n")
	reads(t, over(3, has(list("1 'a' NULL / FALSE TRUE -7"), "a", "b", "c")), "ok 2\n1 'a' NULL\nFALSE TRUE -7\n")
	reads(t, over(3, has([]api.Row{{}, {}})), "ok 2\n\n\n")
	reads(t, over(3, has([]api.Row{{null}}, "a")), "ok 1\nNULL\n")
	reads(t, over(3, has([]api.Row{{text("it's"), text("''"), text("")}}, "a", "b", "c")), "ok 1\n'it''s' '''''' ''\n")
	reads(t, over(3, has([]api.Row{{text("a b"), text("\n"), text("ok 2")}}, "a", "b", "c")), "ok 1\n'a b' '\n' 'ok 2'\n")
	reads(t, over(3, has([]api.Row{{number(math.MinInt64), number(math.MaxInt64), number(0)}}, "a", "b", "c")), "ok 1\n-9223372036854775808 9223372036854775807 0\n")
	reads(t, over(3, has([]api.Row{{text("\xff\x00é")}}, "a")), "ok 1\n'\xff\x00é'\n")
	reads(t, over(12, has([]api.Row{{long(0)}}, "a")), "ok 1\n'"+strings.Repeat("a", api.MaxText)+"'\n")
	many := rowsOf(1234, 16)
	want := "ok 1234\n"
	for range many {
		want += "0" + strings.Repeat(" 0", 15) + "\n"
	}
	for _, r := range many {
		for k := range r {
			r[k] = number(0)
		}
	}
	reads(t, over(12, has(many, make([]string, 16)...)), want)
}

// P27.3: a sum under way has no literal: alone, behind others, in whichever row.
func TestTextOfSums(t *testing.T) {
	for _, s := range []string{"S5", "S0", "S-1", "1 / S5", "1 / 2 / S5 / 3", "1 S5", "S5 1", "'a' NULL TRUE S7 5", "1 2 / 3 S4", "1 S2 / 3 4"} {
		rows := list(s)
		l := over(4, has(rows, make([]string, len(rows[0]))...))
		isLife(t, true, l)
		hasNoText(t, l, api.ErrArg)
	}
}

// P27.3: of errors their number, and the place.
func TestTextOfErrors(t *testing.T) {
	reads(t, over(1, failed(api.ErrFault, 0)), "error 140 0\n")
	reads(t, over(1, failed(api.ErrOver, 0)), "error 300 0\n")
	reads(t, over(1, failed(api.ErrCancel, 0)), "error 371 0\n")
	reads(t, over(1, failed(api.ErrName, 4)), "error 222 4\n")
	reads(t, over(1, failed(api.ErrLong, 0)), "error 3 0\n")
	reads(t, over(1, failed(api.ErrParse, 599)), "error 190 599\n")
	reads(t, over(1, failed(-5, 10)), "error -5 10\n")
	reads(t, over(1, failed(math.MinInt, math.MaxInt)), "error -9223372036854775808 9223372036854775807\n")
	reads(t, over(12, failed(math.MaxInt, 0)), "error 9223372036854775807 0\n")
}

// P27.3: of what may not be there is ErrLife, also where a sum under way stands in it.
func TestTextOfWhatMayNotBe(t *testing.T) {
	for _, l := range noLives() {
		hasNoText(t, l, api.ErrLife)
	}
	hasNoText(t, over(1, has(list("S5 S6"), "a")), api.ErrLife)
	hasNoText(t, over(0, has(list("S5"), "a")), api.ErrLife)
	hasNoText(t, over(1, has([]api.Row{{under(5)}, {{Kind: ks, S: "a"}}}, "a")), api.ErrLife)
}

// P27.3: each value that may be, as its literal.
func TestTextOfEachValue(t *testing.T) {
	for _, v := range rightValues() {
		l := over(1, has([]api.Row{{null, v}}, "a", "b"))
		if v.Kind == ks {
			hasNoText(t, l, api.ErrArg)
		} else {
			reads(t, l, "ok 1\nNULL "+literal(v)+"\n")
		}
	}
}
