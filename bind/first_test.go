package bind_test

import (
	"maps"
	"slices"
	"testing"

	"bowsprit/api"
)

// parts are a select's texts by the place of each.
type parts map[int]string

// right is a select that groups, and can be bound, whatever right part of it stands in the place of a wrong one.
func right() parts {
	return parts{api.AtFrom: "v", api.AtJoin: "JOIN v x ON TRUE", api.AtWhere: "v.d = 1", api.AtGroup: "v.d", api.AtItem: "v.d", api.AtHaving: "v.d = 1"}
}

func (p parts) text() string {
	return "SELECT " + p[api.AtItem] + " FROM " + p[api.AtFrom] + " " + p[api.AtJoin] + " WHERE " + p[api.AtWhere] + " GROUP BY " + p[api.AtGroup] + " HAVING " + p[api.AtHaving]
}

// wrong are a part's texts, each of an error.
func wrong() map[int]map[string]api.Errno {
	thirteen := counted(13)
	return map[int]map[string]api.Errno{
		api.AtFrom:   {"zz": api.ErrTables, "zz v": api.ErrTables},
		api.AtJoin:   {"JOIN zz ON TRUE": api.ErrTables, "JOIN v ON TRUE": api.ErrAlias, "JOIN v x ON zz": api.ErrName, "JOIN v x ON d = 1": api.ErrTwice, "JOIN v x ON 1 + 'x' = 1": api.ErrKind, "JOIN v x ON COUNT(*) = 1": api.ErrAgg, "JOIN v x ON 5": api.ErrTruth},
		api.AtWhere:  {"zz": api.ErrName, "d = 1": api.ErrTwice, "1 + 'x' = 1": api.ErrKind, "MIN(v.c)": api.ErrAgg, "5": api.ErrTruth},
		api.AtGroup:  {"zz": api.ErrName, "d": api.ErrTwice, "v.d, v.zz": api.ErrName, "v.d, e, zz": api.ErrTwice},
		api.AtItem:   {"zz": api.ErrName, "d": api.ErrTwice, "SUM(d)": api.ErrTwice, "1 + 'x'": api.ErrKind, "SUM(v.e)": api.ErrKind, "SUM(COUNT(*))": api.ErrAgg, "v.e": api.ErrGroup, "*": api.ErrStar, thirteen: api.ErrWide},
		api.AtHaving: {"zz": api.ErrName, "d = 1": api.ErrTwice, "1 + 'x' = 1": api.ErrKind, "SUM(x.c) = 1": api.ErrKind, "MAX(COUNT(*) = 1)": api.ErrAgg, "v.c": api.ErrGroup, "5": api.ErrTruth, thirteen: api.ErrWide},
	}
}

// counted are so many aggregates that differ, as a sum.
func counted(many int) string {
	s := "COUNT(0)"
	for k := 1; k < many; k++ {
		s += " + COUNT(" + string(rune('0'+k%10)) + map[bool]string{true: " * 1", false: ""}[k > 9] + ")"
	}
	return s
}

// P12.1: each error at each place where it may come, in each of three selects, beside each error of each place behind.
func TestFirstOfTwoParts(t *testing.T) {
	c := tables(t, few)
	good := right().text()
	isBound(t, c, says(t, good, good, good), rightOfThree)
	for first, texts := range wrong() {
		for text, want := range texts {
			p := right()
			p[first] = text
			for number := range 3 {
				l := []string{good, good, good}
				l[number] = p.text()
				isRefused(t, c, says(t, l...), 10*number+first, want)
				isRefused(t, c, says(t, append(l[:2], l[2]+" ORDER BY zz")...), 10*number+first, want)
			}
			for second, others := range wrong() {
				for other := range others {
					q, behind := maps.Clone(p), right()
					if second > first {
						q[second] = other
					}
					behind[second] = other
					isRefused(t, c, says(t, q.text(), good, behind.text()), first, want)
					isRefused(t, c, says(t, good, q.text(), behind.text()), 10+first, want)
				}
			}
		}
	}
}

// rightOfThree is what three of the select that is right come to.
const (
	rightOfOne   = "2 join 2 on TRUE where (#1 = 1) group #1 having (#0 = 1) get #0"
	rightOfThree = rightOfOne + " | " + rightOfOne + " | " + rightOfOne + " => d int"
)

// P12.1: what selects are put together to goes behind all of each, and ahead of the next one.
func TestFirstOfUnion(t *testing.T) {
	fails(t, "SELECT a FROM t UNION ALL SELECT b FROM t UNION ALL SELECT a FROM zz", 16, api.ErrUnion)
	fails(t, "SELECT a FROM t UNION ALL SELECT b FROM t ORDER BY zz", 16, api.ErrUnion)
	fails(t, "SELECT a FROM t UNION ALL SELECT a, b FROM t UNION ALL SELECT b FROM t", 16, api.ErrUnion)
	fails(t, "SELECT a FROM t UNION ALL SELECT 'x', 1 FROM t HAVING 1", 15, api.ErrTruth)
	fails(t, "SELECT a FROM t UNION ALL SELECT 'x' FROM t UNION ALL SELECT zz FROM t", 16, api.ErrUnion)
	fails(t, "SELECT a FROM t UNION ALL SELECT 1 FROM zz UNION ALL SELECT b FROM t", 10, api.ErrTables)
	fails(t, "SELECT a FROM t UNION ALL SELECT 1 FROM t UNION ALL SELECT b FROM t WHERE zz", 22, api.ErrName)
}

// P12.1: source by source, join by join.
func TestFirstOfJoins(t *testing.T) {
	from := func(joins string, at int, want api.Errno) {
		t.Helper()
		fails(t, "SELECT zz FROM "+joins+" WHERE zz", at, want)
	}
	from("zz JOIN zz ON zz", 0, api.ErrTables)
	from("t JOIN zz t ON zz", 1, api.ErrTables)
	from("t JOIN u t ON zz", 1, api.ErrAlias)
	from("t JOIN t ON 5", 1, api.ErrAlias)
	from("t JOIN u ON zz JOIN zz ON TRUE", 1, api.ErrName)
	from("t JOIN u ON a = 1 JOIN u ON TRUE", 1, api.ErrTwice)
	from("t JOIN u ON 5 JOIN u ON TRUE", 1, api.ErrTruth)
	from("t JOIN u ON NOT 5 JOIN u ON 5", 1, api.ErrKind)
	from("t JOIN u ON SUM(1) = 1 JOIN zz ON 5", 1, api.ErrAgg)
	from("t JOIN zz ON 5 JOIN u t ON zz", 1, api.ErrTables)
	from("t JOIN t ON 5 JOIN zz ON zz", 1, api.ErrAlias)
	from("t JOIN u ON TRUE JOIN t ON zz", 1, api.ErrAlias)
	from("t JOIN u ON TRUE JOIN zz t ON zz", 1, api.ErrTables)
}

// P12.1: of the nodes of a tree the first that is wrong, in their order.
func TestFirstOfNodes(t *testing.T) {
	for x, want := range map[string]api.Errno{
		"zz + (1 + 'x')": api.ErrName, "(1 + 'x') + zz": api.ErrKind, "1 + 'x' + zz": api.ErrKind, "zz + zz.zz": api.ErrName,
		"d + zz": api.ErrTwice, "zz + d": api.ErrName, "zz = d": api.ErrName, "NOT zz": api.ErrName, "(NOT 5) AND zz": api.ErrKind, "'x' + zz": api.ErrName,
		"SUM(zz)": api.ErrName, "SUM(d)": api.ErrTwice, "SUM(1 + 'x')": api.ErrKind, "SUM('x' + 1 + zz)": api.ErrKind,
		"SUM(COUNT(*) + zz)": api.ErrAgg, "SUM(zz + COUNT(*))": api.ErrName, "SUM(SUM('x'))": api.ErrAgg, "SUM(MIN(zz))": api.ErrName,
		"SUM('x' + COUNT(*))": api.ErrAgg, "SUM(1 + 'x' + COUNT(*))": api.ErrKind, "MAX(COUNT(MIN(d)))": api.ErrTwice, "COUNT(MIN(1)) + (1 + 'x')": api.ErrAgg, "(1 + 'x') + COUNT(MIN(1))": api.ErrKind,
	} {
		fails(t, "SELECT "+x+" FROM v JOIN v y ON TRUE", 4, want)
		fails(t, "SELECT COUNT(*), "+x+", zz, d, 1 + 'x' FROM v JOIN v y ON TRUE GROUP BY y.c", 4, want)
		fails(t, "SELECT 1 FROM v JOIN v y ON TRUE HAVING "+x, 5, want)
		fails(t, "SELECT 1 FROM v JOIN v y ON TRUE HAVING FALSE AND ("+x+") IS NULL", 5, want)
	}
	for x, want := range map[string]api.Errno{
		"zz + COUNT(*)": api.ErrName, "COUNT(*) + zz": api.ErrAgg, "(1 + 'x') + COUNT(*)": api.ErrKind, "COUNT(*) + (1 + 'x')": api.ErrAgg, "COUNT(*) + 'x'": api.ErrAgg, "'x' + COUNT(*)": api.ErrAgg,
		"SUM(zz)": api.ErrName, "SUM(d)": api.ErrTwice, "SUM('x')": api.ErrAgg, "SUM(1 + 'x')": api.ErrKind, "MAX(SUM('x') + zz)": api.ErrAgg, "COUNT(*)": api.ErrAgg, "d + SUM(zz)": api.ErrTwice,
	} {
		fails(t, "SELECT 1 FROM w JOIN u ON TRUE JOIN u d ON ("+x+") IS NULL", 1, map[bool]api.Errno{true: api.ErrName, false: want}[want == api.ErrTwice])
		fails(t, "SELECT 1 FROM v JOIN v y ON ("+x+") IS NULL", 1, want)
		fails(t, "SELECT 1 FROM v JOIN v y ON TRUE WHERE "+x, 2, want)
		fails(t, "SELECT 1 FROM v JOIN v y ON TRUE WHERE TRUE OR ("+x+") IS NULL", 2, want)
	}
	for x, want := range map[string]api.Errno{
		"d + 'x'": api.ErrGroup, "'x' + d": api.ErrGroup, "('x' + 1) + d": api.ErrKind, "d + ('x' + 1)": api.ErrGroup, "d + zz": api.ErrGroup, "zz + d": api.ErrName,
		"SUM(d) + d": api.ErrGroup, "SUM(e) + d": api.ErrKind, "d + SUM(e)": api.ErrGroup, "SUM(SUM(d)) + d": api.ErrAgg, "c AND d": api.ErrGroup, "(c + 1) + d": api.ErrKind,
	} {
		fails(t, "SELECT c, "+x+" FROM v GROUP BY c", 4, want)
		fails(t, "SELECT c FROM v GROUP BY c HAVING "+x, 5, want)
	}
}

// P12.1: names behind GROUP BY, name by name.
func TestFirstOfGroup(t *testing.T) {
	fails(t, "SELECT 1 FROM v JOIN v y ON TRUE GROUP BY zz, d", 3, api.ErrName)
	fails(t, "SELECT 1 FROM v JOIN v y ON TRUE GROUP BY d, zz", 3, api.ErrTwice)
	fails(t, "SELECT zz FROM v JOIN v y ON TRUE GROUP BY v.d, y.d, zz", 3, api.ErrName)
	fails(t, "SELECT * FROM v JOIN v y ON TRUE GROUP BY v.d, y.d, d", 3, api.ErrTwice)
}

// P12.1: one aggregate too many, as soon as it is there.
func TestFirstOfWide(t *testing.T) {
	twelve, thirteen := counted(12), counted(13)
	for x, want := range map[string]api.Errno{
		thirteen + " + zz": api.ErrWide, "zz + (" + thirteen + ")": api.ErrName, thirteen + " + 'x'": api.ErrWide, "'x' + (" + thirteen + ")": api.ErrWide, "('x' + 1) + (" + thirteen + ")": api.ErrKind,
		twelve + " + zz + SUM(1)": api.ErrName, twelve + " + SUM('x')": api.ErrKind, twelve + " + SUM(COUNT(*))": api.ErrAgg, twelve + " + SUM(zz)": api.ErrName, twelve + " + d": api.ErrGroup,
		twelve + " + MAX('x')": api.ErrWide, twelve + " + 'x'": api.ErrKind, twelve + " + COUNT(0) + 'x'": api.ErrKind, twelve + " + COUNT(0) + SUM(0)": api.ErrWide, thirteen + " + d": api.ErrWide,
	} {
		fails(t, "SELECT "+x+" FROM v", 4, want)
		fails(t, "SELECT "+x+", zz, 1 + 'x', SUM(SUM(1)), d FROM v HAVING 5", 4, want)
		fails(t, "SELECT 1 FROM v HAVING "+x, 5, want)
		fails(t, "SELECT COUNT(0), COUNT(1) FROM v HAVING NOT "+x, 5, want)
	}
	fails(t, "SELECT "+twelve+", SUM(1), zz FROM v", 4, api.ErrWide)
	fails(t, "SELECT "+twelve+", zz, SUM(1) FROM v", 4, api.ErrName)
	fails(t, "SELECT "+twelve+" FROM v HAVING zz", 5, api.ErrName)
	fails(t, "SELECT "+twelve+" FROM v HAVING SUM(1)", 5, api.ErrWide)
	fails(t, "SELECT "+twelve+" FROM v HAVING COUNT(0)", 5, api.ErrTruth)
	fails(t, "SELECT "+thirteen+" FROM v HAVING 5", 4, api.ErrWide)
}

// notCatalogs are catalogs that may not be.
func notCatalogs(t *testing.T) []api.Catalog {
	t.Helper()
	l := tables(t, few).Tables
	noKey, noName, noKind := l[0], l[0], l[0]
	noKey.Keys, noName.Name, noKind.Columns = []int{2}, "T", []api.Column{{Name: "a"}}
	return []api.Catalog{{Tables: append(slices.Clone(l), l[0])}, {Tables: slices.Concat(l[:1], l[:1])}, {Tables: []api.Table{noKey}}, {Tables: []api.Table{noName}}, {Tables: []api.Table{l[1], noKind}}, {Tables: []api.Table{{}}}}
}

// notQueries are queries that may not be.
func notQueries(t *testing.T) []api.Query {
	t.Helper()
	none := says(t, "SELECT a FROM t")
	l := []api.Query{{}, {Limit: -1}, {Selects: none.Selects, Limit: -2}, {Selects: slices.Repeat(none.Selects, 4), Limit: -1}, {Selects: make([]api.Select, 1), Limit: -1}}
	for _, change := range []func(*api.Query){
		func(q *api.Query) { q.Selects[0].Star = true },
		func(q *api.Query) { q.Selects[0].Items[0].Tree.Nodes = nil },
		func(q *api.Query) { q.Selects[0].Items[0].Tree.Nodes[0].L = 0 },
		func(q *api.Query) { q.Selects[0].Items[0].Tree.Nodes[0].Tag = 24 },
		func(q *api.Query) { q.Selects[0].Items[0].Tree.Nodes[0].Name = "A" },
		func(q *api.Query) { q.Selects[0].Items[0].As = "A" },
		func(q *api.Query) { q.Selects[0].From.Table = "" },
		func(q *api.Query) { q.Selects[0].From.As = "T" },
		func(q *api.Query) { q.Selects[0].Joins = make([]api.Join, 1) },
		func(q *api.Query) { q.Selects[0].Where.Nodes = make([]api.Node, 1) },
		func(q *api.Query) { q.Selects[0].Having.Nodes = make([]api.Node, 301) },
		func(q *api.Query) { q.Selects[0].Group = []api.Name{{Table: "t"}} },
		func(q *api.Query) { q.Keys = []api.Key{{Name: "a", Number: 1}} },
		func(q *api.Query) { q.Keys = []api.Key{{Number: -1}} },
		func(q *api.Query) { q.Keys = make([]api.Key, 4) },
	} {
		q := says(t, "SELECT a FROM t")
		change(&q)
		l = append(l, q)
	}
	return l
}

// P12.1: a catalog that may not be, a query that may not be, both; ahead of whatever else is wrong.
func TestWhatMayNotBe(t *testing.T) {
	good := says(t, "SELECT zz FROM zz")
	for _, c := range notCatalogs(t) {
		isRefused(t, c, good, 0, api.ErrCatalog)
		isRefused(t, c, says(t, "SELECT a FROM t"), 0, api.ErrCatalog)
		for _, q := range notQueries(t) {
			isRefused(t, c, q, 0, api.ErrCatalog)
		}
	}
	for _, q := range notQueries(t) {
		isRefused(t, tables(t, few), q, 0, api.ErrAst)
		isRefused(t, api.Catalog{}, q, 0, api.ErrAst)
	}
	isRefused(t, api.Catalog{}, good, 0, api.ErrTables)
}
