package bind_test

import (
	"slices"
	"strconv"
	"strings"
	"testing"

	"bowsprit/api"
	"bowsprit/bind"
)

// P12.1: each aggregate alone, of each kind, and of null.
func TestEachAggregate(t *testing.T) {
	comes(t, "SELECT COUNT(*) FROM v", "2 group ALL get #0 => - int")
	for arg, want := range map[string]string{"c": "#0 bool", "d": "#1 int", "e": "#2 text", "v.b": "#3 bool", "NULL": "NULL null", "1": "1 int", "TRUE": "TRUE bool", "'x'": "'x' text", "d * 2": "(#1 * 2) int", "d = 2": "(#1 = 2) bool", "- NULL": "(- NULL) int", "e IS NULL": "(NULL? #2) bool"} {
		at := strings.LastIndex(want, " ")
		x, kind := want[:at], want[at:]
		comes(t, "SELECT COUNT("+arg+") FROM v", "2 group COUNT("+x+") get #0 => - int")
		comes(t, "SELECT MIN("+arg+") FROM v", "2 group MIN("+x+") get #0 => -"+kind)
		comes(t, "SELECT MAX("+arg+") FROM v", "2 group MAX("+x+") get #0 => -"+kind)
		if kind == " int" || kind == " null" {
			comes(t, "SELECT SUM("+arg+") FROM v", "2 group SUM("+x+") get #0 => - int")
			comes(t, "SELECT 1 FROM v HAVING SUM("+arg+") > 1", "2 group SUM("+x+") having (#0 > 1) get 1 => - int")
		} else {
			fails(t, "SELECT SUM("+arg+") FROM v", 4, api.ErrKind)
			fails(t, "SELECT 1 FROM v HAVING SUM("+arg+") > 1", 5, api.ErrKind)
		}
	}
}

// P12.1: an aggregate is a column of its kind among others.
func TestKindsOfAggregates(t *testing.T) {
	comes(t, "SELECT COUNT(e) + SUM(d) FROM v", "2 group COUNT(#2) SUM(#1) get (#0 + #1) => - int")
	comes(t, "SELECT MAX(c) AND NOT MIN(c) FROM v", "2 group MAX(#0) MIN(#0) get (#0 AND (NOT #1)) => - bool")
	comes(t, "SELECT MIN(NULL) = MAX(e) FROM v", "2 group MIN(NULL) MAX(#2) get (#0 = #1) => - bool")
	fails(t, "SELECT COUNT(e) = MAX(e) FROM v", 4, api.ErrKind)
	fails(t, "SELECT NOT COUNT(c) FROM v", 4, api.ErrKind)
	fails(t, "SELECT NOT COUNT(*) FROM v", 4, api.ErrKind)
	fails(t, "SELECT MIN(c) + 1 FROM v", 4, api.ErrKind)
	fails(t, "SELECT - MAX(e) FROM v", 4, api.ErrKind)
	fails(t, "SELECT 1 FROM v HAVING SUM(d) AND TRUE", 5, api.ErrKind)
	fails(t, "SELECT SUM(d + e) FROM v", 4, api.ErrKind)
	fails(t, "SELECT COUNT(NOT d) FROM v", 4, api.ErrKind)
	fails(t, "SELECT c + 1 FROM v GROUP BY c", 4, api.ErrKind)
	comes(t, "SELECT d + 1 FROM v GROUP BY c, d", "2 group #0 #1 get (#1 + 1) => - int")
}

// P12.1: the same aggregate twice is one: of the same Tag and the same Arg, as it is bound.
func TestTheSameTwice(t *testing.T) {
	comes(t, "SELECT SUM(d), SUM(d), SUM(v.d) + SUM(d) FROM v", "2 group SUM(#1) get #0, #0, (#0 + #0) => - int, - int, - int")
	comes(t, "SELECT COUNT(*), COUNT(*) FROM v HAVING COUNT(*) = COUNT(*)", "2 group ALL having (#0 = #0) get #0, #0 => - int, - int")
	comes(t, "SELECT COUNT(d), SUM(d), MIN(d), MAX(d), COUNT(*), MAX(d) FROM v", "2 group COUNT(#1) SUM(#1) MIN(#1) MAX(#1) ALL get #0, #1, #2, #3, #4, #3 => - int, - int, - int, - int, - int, - int")
	comes(t, "SELECT SUM(d), SUM(d + 0), SUM(0 + d), SUM(d) FROM v", "2 group SUM(#1) SUM((#1 + 0)) SUM((0 + #1)) get #0, #1, #2, #0 => - int, - int, - int, - int")
	comes(t, "SELECT COUNT(1), COUNT('1'), COUNT(TRUE), COUNT(NULL), COUNT(1) FROM v", "2 group COUNT(1) COUNT('1') COUNT(TRUE) COUNT(NULL) get #0, #1, #2, #3, #0 => - int, - int, - int, - int, - int")
	comes(t, "SELECT SUM(t.a), SUM(u.a), SUM(t.a) FROM t JOIN u ON TRUE", "0 join 1 on TRUE group SUM(#0) SUM(#2) get #0, #1, #0 => - int, - int, - int")
	comes(t, "SELECT MIN(d) FROM v HAVING MAX(d) > MIN(d) AND COUNT(*) = 1", "2 group MIN(#1) MAX(#1) ALL having ((#1 > #0) AND (#2 = 1)) get #0 => - int")
	comes(t, "SELECT SUM(d) FROM v GROUP BY c, e HAVING SUM(d) = 1", "2 group #0 #2 SUM(#1) having (#2 = 1) get #2 => - int")
	comes(t, "SELECT SUM(a) FROM u UNION ALL SELECT SUM(a) FROM u", "1 group SUM(#0) get #0 | 1 group SUM(#0) get #0 => - int")
}

// P12.1: an aggregate that is a part of another one, however far below it, wherever aggregates may be or not.
func TestWithinAnother(t *testing.T) {
	outer, inner := []string{"COUNT", "SUM", "MIN", "MAX"}, []string{"COUNT(*)", "COUNT(d)", "SUM(d)", "SUM(e)", "MIN(e)", "MAX(c)"}
	for _, o := range outer {
		for _, i := range inner {
			for _, arg := range []string{i, "- " + i, "1 + 2 * " + i, "(NOT (" + i + " IS NULL)) IS NULL"} {
				fails(t, "SELECT "+o+"("+arg+") FROM v", 4, api.ErrAgg)
				fails(t, "SELECT d, "+o+"("+arg+") FROM v GROUP BY d", 4, api.ErrAgg)
				fails(t, "SELECT d FROM v GROUP BY d HAVING "+o+"("+arg+") = 1", 5, api.ErrAgg)
				fails(t, "SELECT d FROM v WHERE "+o+"("+arg+") = 1", 2, api.ErrAgg)
			}
		}
	}
	comes(t, "SELECT COUNT(*) + COUNT(*) * SUM(d) FROM v", "2 group ALL SUM(#1) get (#0 + (#0 * #1)) => - int")
}

// P12.1: aggregates where none may be; behind GROUP BY stand names alone, and what is called as an aggregate's item names nothing there.
func TestWhereNoneMayBe(t *testing.T) {
	for _, x := range []string{"COUNT(*)", "COUNT(d)", "SUM(d)", "MIN(d)", "MAX(d)", "SUM(e)", "SUM(NULL)"} {
		fails(t, "SELECT 1 FROM v JOIN w ON "+x+" = 1", 1, api.ErrAgg)
		fails(t, "SELECT 1 FROM w JOIN v ON TRUE LEFT JOIN u ON 1 < 2 AND 1 < "+x, 1, api.ErrAgg)
		fails(t, "SELECT 1 FROM v WHERE "+x+" IS NULL", 2, api.ErrAgg)
		fails(t, "SELECT SUM(d) FROM v WHERE "+x+" = 1 GROUP BY d HAVING COUNT(*) = 1", 2, api.ErrAgg)
	}
	fails(t, "SELECT SUM(d) AS s FROM v GROUP BY s", 3, api.ErrName)
	fails(t, "SELECT d AS s FROM v GROUP BY s", 3, api.ErrName)
	fails(t, "SELECT SUM(d) AS s FROM v HAVING s = 1", 5, api.ErrName)
	fails(t, "SELECT d AS s FROM v WHERE s = 1", 2, api.ErrName)
	fails(t, "SELECT d AS s, s FROM v", 4, api.ErrName)
}

// P12.1: a name below an aggregate is one of the sources', beside one it is the group's.
func TestBelowAndBeside(t *testing.T) {
	comes(t, "SELECT e, SUM(d) FROM v GROUP BY e", "2 group #2 SUM(#1) get #0, #1 => e text, - int")
	comes(t, "SELECT d + SUM(d), d FROM v GROUP BY c, d", "2 group #0 #1 SUM(#1) get (#1 + #2), #1 => - int, d int")
	comes(t, "SELECT COUNT(c) FROM v GROUP BY d HAVING d = MIN(d) AND MAX(c)", "2 group #1 COUNT(#0) MIN(#1) MAX(#0) having ((#0 = #2) AND #3) get #1 => - int")
	fails(t, "SELECT d + SUM(d) FROM v", 4, api.ErrGroup)
	fails(t, "SELECT SUM(d) + d FROM v GROUP BY e", 4, api.ErrGroup)
	fails(t, "SELECT d, SUM(d) FROM v", 4, api.ErrGroup)
	fails(t, "SELECT SUM(d), d FROM v", 4, api.ErrGroup)
	fails(t, "SELECT d FROM v GROUP BY e", 4, api.ErrGroup)
	fails(t, "SELECT d FROM v HAVING TRUE", 4, api.ErrGroup)
	fails(t, "SELECT 1 FROM v HAVING c", 5, api.ErrGroup)
	fails(t, "SELECT d FROM v GROUP BY d HAVING MIN(c) AND c", 5, api.ErrGroup)
	fails(t, "SELECT f FROM v GROUP BY e", 4, api.ErrName)
	fails(t, "SELECT a FROM t JOIN u ON TRUE GROUP BY t.a", 4, api.ErrTwice)
	fails(t, "SELECT u.a FROM t JOIN u ON TRUE GROUP BY t.a", 4, api.ErrGroup)
	fails(t, "SELECT t.a FROM t JOIN u ON t.a = u.a GROUP BY u.a", 4, api.ErrGroup)
	comes(t, "SELECT t.a, SUM(u.a) FROM t JOIN u ON TRUE GROUP BY t.a", "0 join 1 on TRUE group #0 SUM(#2) get #0, #1 => a int, - int")
}

// P12.1: a name is the first of the group's columns that is the one it names, however it is written.
func TestFirstOfTheGroup(t *testing.T) {
	comes(t, "SELECT d, v.d FROM v GROUP BY v.d", "2 group #1 get #0, #0 => d int, d int")
	comes(t, "SELECT v.d FROM v GROUP BY d", "2 group #1 get #0 => d int")
	comes(t, "SELECT e, c FROM v GROUP BY c, e", "2 group #0 #2 get #1, #0 => e text, c bool")
	comes(t, "SELECT c FROM v GROUP BY d, c, c", "2 group #1 #0 #0 get #1 => c bool")
	comes(t, "SELECT d, SUM(d) FROM v GROUP BY d, d, v.d", "2 group #1 #1 #1 SUM(#1) get #0, #3 => d int, - int")
	comes(t, "SELECT e FROM v x GROUP BY x.e HAVING e = x.e", "2 group #2 having (#0 = #0) get #0 => e text")
}

// P12.1: a group without names, and without anything.
func TestGroupsWithoutNames(t *testing.T) {
	comes(t, "SELECT SUM(d) FROM v", "2 group SUM(#1) get #0 => - int")
	comes(t, "SELECT 1 FROM v HAVING TRUE", "2 group having TRUE get 1 => - int")
	comes(t, "SELECT 1, NULL FROM v HAVING COUNT(*) > 0", "2 group ALL having (#0 > 0) get 1, NULL => - int, - null")
	comes(t, "SELECT 1 FROM v GROUP BY d", "2 group #1 get 1 => - int")
	comes(t, "SELECT DISTINCT d FROM v WHERE c GROUP BY d HAVING d > 1", "2 where #0 group #1 having (#0 > 1) get #0 distinct => d int")
	comes(t, "SELECT 1 + COUNT(*) FROM v WHERE d = 1", "2 where (#1 = 1) group ALL get (1 + #0) => - int")
}

// P12.1: Star is all columns, if it does not group.
func TestStar(t *testing.T) {
	comes(t, "SELECT * FROM u", "1 get #0 => a int")
	comes(t, "SELECT DISTINCT * FROM t WHERE a = 1", "0 where (#0 = 1) get #0, #1 distinct => a int, b text")
	comes(t, "SELECT * FROM v x JOIN t ON d = a", "2 join 0 on (#1 = #4) get #0, #1, #2, #3, #4, #5 => c bool, d int, e text, b bool, a int, b text")
	comes(t, "SELECT * FROM v JOIN v x ON TRUE LEFT JOIN v y ON TRUE", "2 join 2 on TRUE left 2 on TRUE get #0, #1, #2, #3, #4, #5, #6, #7, #8, #9, #10, #11 => c bool, d int, e text, b bool, c bool, d int, e text, b bool, c bool, d int, e text, b bool")
	for _, text := range []string{"v GROUP BY d", "v GROUP BY c, d, e", "v HAVING TRUE", "v HAVING COUNT(*) = 1", "v HAVING 1", "u GROUP BY a HAVING a = 1"} {
		fails(t, "SELECT * FROM "+text, 4, api.ErrStar)
	}
	fails(t, "SELECT * FROM u GROUP BY b", 3, api.ErrName)
}

// counts are so many aggregates that differ, joined by a sign.
func counts(from, many int, sign string) string {
	l := []string{"COUNT(*)", "COUNT(d)", "SUM(d)", "MIN(d)", "MAX(d)", "COUNT(1)", "SUM(1)", "MIN(1)", "MAX(1)", "COUNT(e)", "SUM(2)", "MIN(2)", "MAX(2)", "SUM(3)", "SUM(4)", "SUM(5)"}
	return strings.Join(l[from:from+many], sign)
}

// P12.1: as many aggregates as there may be, and one more: in one item, in several, in Having, in both.
func TestHowManyAggregates(t *testing.T) {
	c := tables(t, few)
	for many := range 15 {
		item, having, at := "1", "TRUE", api.AtHaving
		for first := range many + 1 {
			if item, having, at = "1", "TRUE", api.AtHaving; first > 0 {
				item = counts(0, first, " + ")
			}
			if first > api.MaxAggs {
				at = api.AtItem
			}
			if many > first {
				having = counts(first, many-first, " + ") + " = 0"
			}
			for _, group := range []string{"", " GROUP BY c, d, e"} {
				q := says(t, "SELECT "+item+" FROM v"+group+" HAVING "+having)
				if many > api.MaxAggs {
					isRefused(t, c, q, at, api.ErrWide)
					continue
				}
				b, _, e := bind.Bind(c, q)
				if e != api.OK || len(b.Selects[0].Aggs) != many {
					t.Error(many, first, e)
				}
			}
		}
	}
	fails(t, "SELECT "+counts(0, 5, ", ")+", "+counts(5, 7, " + ")+" FROM v HAVING MAX(e) = ''", 5, api.ErrWide)
	fails(t, "SELECT "+counts(0, 5, ", ")+", "+counts(5, 8, " + ")+" FROM v", 4, api.ErrWide)
	comes(t, "SELECT "+counts(0, 12, " + ")+", "+counts(0, 12, " + ")+" FROM v HAVING "+counts(0, 12, " + ")+" = 1",
		"2 group ALL COUNT(#1) SUM(#1) MIN(#1) MAX(#1) COUNT(1) SUM(1) MIN(1) MAX(1) COUNT(#2) SUM(2) MIN(2) having ("+chained(12)+" = 1) get "+chained(12)+", "+chained(12)+" => - int, - int")
	for _, first := range []string{"SELECT 1 FROM v", "SELECT " + counts(0, 12, " + ") + " FROM v"} {
		q := slices.Concat(says(t, first).Selects, says(t, "SELECT "+counts(0, 13, " + ")+" FROM v").Selects)
		isRefused(t, c, api.Query{Selects: q, Limit: -1}, 14, api.ErrWide)
	}
}

// chained are so many columns joined by +, as these tests write it.
func chained(many int) string {
	s := "#0"
	for k := 1; k < many; k++ {
		s = "(" + s + " + #" + strconv.Itoa(k) + ")"
	}
	return s
}
