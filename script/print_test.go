package script_test

import (
	"fmt"
	"math"
	"strings"
	"testing"

	"bowsprit/api"
	"bowsprit/script"
)

// P30.1: the lines, in their order: tables, nodes, rows part by part, of one table by table, events.
func TestPrint(t *testing.T) {
	l, key := placed("", "5 TRUE / -3 NULL", "9 FALSE / 9 FALSE", ""), keyAt(3)
	l.Parts[2].Tables[0] = []api.Row{{number(key), text("y")}, {number(key), text("x")}}
	s := scriptOf(tables(), l, eachKind()...)
	want := append(strings.Split(strings.TrimSpace(head()), "\n"), "row 1 u 5 TRUE", "row 1 u -3 NULL", "row 2 u 9 FALSE", "row 2 u 9 FALSE", fmt.Sprintf("row 3 t %d 'y'", key), fmt.Sprintf("row 3 t %d 'x'", key))
	want = append(want, "submit SELECT c FROM u", "cancel 1", "tick 2", "come 3", "lose 4", "drop 5 6", "twin 7", "spoil 8 9 10", "rounds 11")
	isText(t, s, lines(want...))
	isText(t, plain(), writtenByRule(plain()))
}

// P30.1: without tables, rows, events; with some of these alone.
func TestPrintLess(t *testing.T) {
	isText(t, bare(), "nodes 1\n")
	isText(t, bare(tick(0)), "nodes 1\ntick 0\n")
	isText(t, scriptOf(tables(), placed("", "", "", "")), head())
	isText(t, scriptOf(tables(), placed("", "", "", ""), rounds(0)), head()+"rounds 0\n")
	isText(t, scriptOf(cat(tab("t", "a int")), api.Layout{Parts: []api.Base{partOf("1")}}), "table t a int\nnodes 1\nrow 1 t 1\n")
	for n := 1; n <= api.MaxSites; n++ {
		isText(t, scriptOf(api.Catalog{}, api.Layout{Parts: make([]api.Base, n)}), "nodes "+string(rune('0'+n))+"\n")
	}
}

// P30.1: each value by its literal: texts with quotes and blanks, the least and the greatest number, nulls in each column, truths.
func TestPrintValues(t *testing.T) {
	c := cat(tab("t", "a int b text c bool d text"))
	row := func(l ...api.Value) api.Row { return l }
	for want, r := range map[string]api.Row{
		"NULL NULL NULL NULL":                     row(null, null, null, null),
		"0 '' FALSE ''":                           row(number(0), text(""), no, text("")),
		"-9223372036854775808 ' ' TRUE '  '":      row(number(math.MinInt64), text(" "), yes, text("  ")),
		"9223372036854775807 '''' NULL ''''''":    row(number(math.MaxInt64), text("'"), null, text("''")),
		"-1 'it''s a b' FALSE ' '' '":             row(number(-1), text("it's a b"), no, text(" ' ")),
		"10 'NULL' TRUE '7'":                      row(number(10), text("NULL"), yes, text("7")),
		"NULL 'row 1 t' NULL 'table t a int'":     row(null, text("row 1 t"), null, text("table t a int")),
		"7 NULL NULL ''' '''":                     row(number(7), null, null, text("' '")),
		"NULL '~!\"#%/\\' TRUE NULL":              row(null, text("~!\"#%/\\"), yes, null),
		"1 '" + long(40) + "' NULL ' '' '' '''''": row(number(1), text(long(40)), null, text(" ' ' ''")),
		"2 '" + strings.Repeat("''", 40) + "' TRUE '" + strings.Repeat(" ", 40) + "'": row(number(2), text(strings.Repeat("'", 40)), yes, text(strings.Repeat(" ", 40))),
	} {
		s := scriptOf(c, api.Layout{Parts: []api.Base{{Tables: [][]api.Row{nil}}, {Tables: [][]api.Row{{r, r}}}}})
		isText(t, s, "table t a int b text c bool d text\nnodes 2\nrow 2 t "+want+"\nrow 2 t "+want+"\n")
	}
}

// P30.1: each Kind's numbers, at 0 and at their greatest.
func TestPrintNumbers(t *testing.T) {
	const most, num = 1<<31 - 1, 1<<40 + 1
	s := bare(submit(""), submit(" "), submit("  SELECT  "), cancel(0), cancel(most), tick(0), tick(most), come(0), come(num), lose(0), lose(num), drop(0, 0), drop(most, most), drop(0, 7), drop(7, 0), twin(0), twin(num), spoilt(0, 0, 0), spoilt(num, most, 255), spoilt(1, 0, 0), spoilt(0, 1, 0), spoilt(0, 0, 1), rounds(0), rounds(100))
	isText(t, s, lines("nodes 1", "submit ", "submit  ", "submit   SELECT  ", "cancel 0", "cancel 2147483647", "tick 0", "tick 2147483647", "come 0", "come 1099511627777", "lose 0", "lose 1099511627777", "drop 0 0", "drop 2147483647 2147483647", "drop 0 7", "drop 7 0", "twin 0", "twin 1099511627777", "spoil 0 0 0", "spoil 1099511627777 2147483647 255", "spoil 1 0 0", "spoil 0 1 0", "spoil 0 0 1", "rounds 0", "rounds 100"))
}

// P30.1: ErrLong of a text of more bytes than there may be, not of just as many; what may not be is refused ahead of that.
func TestPrintLong(t *testing.T) {
	for _, n := range []int{5000, api.MaxScript - 1, api.MaxScript} {
		s := sized(n)
		text := writtenByRule(s)
		if isText(t, s, text); len(text) != n {
			t.Error(len(text), n)
		}
	}
	for _, n := range []int{api.MaxScript + 1, api.MaxScript + 2, api.MaxScript + 700, 200000} {
		s := sized(n)
		mayBe(t, s)
		if got := asRule(t, "Print", given{Script: s}); !same(got, answer{Err: api.ErrLong}) {
			t.Error(n, got.Err, len(got.Text))
		}
		s.Events[len(s.Events)-1].Node = 1
		mayNotBe(t, s)
	}
}

// P30.1: of a text of just as many bytes rows count, too.
func TestPrintLongRows(t *testing.T) {
	s := sized(api.MaxScript)
	s.Catalog = cat(tab("t", "a int"))
	s.Layout.Parts[0] = partOf("1")
	if _, e := script.Print(s); e != api.ErrLong {
		t.Error(e)
	}
	mayBe(t, s)
}
