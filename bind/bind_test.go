package bind_test

import (
	"slices"
	"strconv"
	"strings"
	"testing"

	"bowsprit/api"
	"bowsprit/bind"
	"bowsprit/catalog"
	"bowsprit/expr"
	"bowsprit/parse"
)

// few are the tables of most tests: a is a column of two of them, b one of two kinds, w is a table and a column.
const few = "table t a int b text by a\ntable u a int\ntable v c bool d int e text b bool\ntable w w int\n"

func tables(t *testing.T, lines string) api.Catalog {
	t.Helper()
	c, at, e := catalog.Parse(lines)
	if e != api.OK {
		t.Fatalf("%q: %v at %v", lines, e, at)
	}
	return c
}

// says is the query of several selects' texts; keys and a limit stand behind the last one. So all may be longer than a text may.
func says(t *testing.T, texts ...string) api.Query {
	t.Helper()
	all := api.Query{Limit: -1}
	for _, text := range texts {
		q, at, e := parse.Query(text)
		if e != api.OK {
			t.Fatalf("%q: %v at %v", text, e, at)
		}
		all.Selects = append(all.Selects, q.Selects...)
		all.Keys, all.Limit = q.Keys, q.Limit
	}
	return all
}

var signs = map[int]string{
	api.NNeg: "-", api.NNot: "NOT", api.NIsNull: "NULL?", api.NNotNull: "THERE?", api.NAdd: "+", api.NSub: "-", api.NMul: "*", api.NDiv: "/", api.NEq: "=",
	api.NNe: "<>", api.NLt: "<", api.NLe: "<=", api.NGt: ">", api.NGe: ">=", api.NAnd: "AND", api.NOr: "OR",
}

var (
	kindWords = map[int]string{api.VNull: "null", api.VBool: "bool", api.VInt: "int", api.VText: "text"}
	aggWords  = map[int]string{api.AggAll: "ALL", api.AggCount: "COUNT", api.AggSum: "SUM", api.AggMin: "MIN", api.AggMax: "MAX"}
)

func literal(v api.Value) string {
	switch v {
	case api.Value{}:
		return "NULL"
	case api.Value{Kind: api.VBool}:
		return "FALSE"
	case api.Value{Kind: api.VBool, N: 1}:
		return "TRUE"
	case api.Value{Kind: api.VInt, N: v.N}:
		return strconv.FormatInt(v.N, 10)
	}
	return "'" + v.S + "'"
}

// written is how these tests write an expression: a column is # and its number, each node of parts stands in parentheses.
func written(x api.Expr) string {
	var write func(place int) string
	write = func(place int) string {
		n := x.Nodes[place]
		switch {
		case n.Tag == api.NLit:
			return literal(n.Value)
		case n.Tag == api.ECol:
			return "#" + strconv.Itoa(n.Col)
		case n.R < 0:
			return "(" + signs[n.Tag] + " " + write(n.L) + ")"
		}
		return "(" + write(n.L) + " " + signs[n.Tag] + " " + write(n.R) + ")"
	}
	if e := expr.Check(x); e != api.OK {
		return "?" + strconv.Itoa(int(e))
	}
	return write(len(x.Nodes) - 1)
}

func writtenAgg(a api.Agg) string {
	if a.Tag == api.AggAll && len(a.Arg.Nodes) == 0 {
		return "ALL"
	}
	return aggWords[a.Tag] + "(" + written(a.Arg) + ")"
}

// mapped is what a function makes of each of a list.
func mapped[T any](l []T, f func(T) string) []string {
	var out []string
	for _, x := range l {
		out = append(out, f(x))
	}
	return out
}

// writtenSelect writes all that a select has, and nothing of what it has not.
func writtenSelect(s api.BSelect) string {
	if len(s.Tables) != len(s.Joins)+1 || !s.Grouped && len(s.Keys)+len(s.Aggs)+len(s.Having.Nodes) > 0 {
		return "?"
	}
	l := []string{strconv.Itoa(s.Tables[0])}
	for k, j := range s.Joins {
		l = append(l, map[bool]string{true: "left", false: "join"}[j.Left], strconv.Itoa(s.Tables[k+1]), "on", written(j.On))
	}
	if len(s.Where.Nodes) > 0 {
		l = append(l, "where", written(s.Where))
	}
	if s.Grouped {
		l = append(l, "group")
	}
	l = append(l, mapped(s.Keys, func(k int) string { return "#" + strconv.Itoa(k) })...)
	l = append(l, mapped(s.Aggs, writtenAgg)...)
	if len(s.Having.Nodes) > 0 {
		l = append(l, "having", written(s.Having))
	}
	l = append(l, "get", strings.Join(mapped(s.Items, written), ", "))
	if s.Distinct {
		l = append(l, "distinct")
	}
	return strings.Join(l, " ")
}

// told writes a bound query: each select, then each column's name (- for none) and kind, then the order, and the limit.
func told(b api.Bound) string {
	if len(b.Names) != len(b.Kinds) {
		return "?"
	}
	var columns []string
	for k, name := range b.Names {
		columns = append(columns, map[bool]string{true: "-", false: name}[name == ""]+" "+kindWords[b.Kinds[k]])
	}
	s := strings.Join(mapped(b.Selects, writtenSelect), " | ") + " => " + strings.Join(columns, ", ")
	if len(b.Order) > 0 {
		s += " by"
	}
	for _, o := range b.Order {
		s += " " + map[bool]string{true: "-", false: "+"}[o.Desc] + strconv.Itoa(o.Col)
	}
	if b.Limit != -1 {
		s += " limit " + strconv.Itoa(b.Limit)
	}
	return s
}

// isNothing tells whether a bound query is the zero one.
func isNothing(b api.Bound) bool {
	return len(b.Selects)+len(b.Names)+len(b.Kinds)+len(b.Order) == 0 && b.Limit == 0
}

func isBound(t *testing.T, c api.Catalog, q api.Query, want string) {
	t.Helper()
	b, at, e := bind.Bind(c, q)
	if e != api.OK || at != 0 {
		t.Errorf("%v at %v, not %s", e, at, want)
	} else if got := told(b); got != want {
		t.Errorf("\n%s, not\n%s", got, want)
	}
}

func isRefused(t *testing.T, c api.Catalog, q api.Query, at int, want api.Errno) {
	t.Helper()
	b, place, e := bind.Bind(c, q)
	if e != want || place != at || !isNothing(b) {
		t.Errorf("%v at %v, not %v at %v (%v)", e, place, want, at, b)
	}
}

// comes holds what a text over the few tables comes to.
func comes(t *testing.T, text, want string) {
	t.Helper()
	isBound(t, tables(t, few), says(t, text), want)
}

// fails holds the error of a text over the few tables; and, if it is one of the first select, that selects ahead of that one put its place further on, by ten each.
func fails(t *testing.T, text string, at int, want api.Errno) {
	t.Helper()
	c := tables(t, few)
	q := says(t, text)
	isRefused(t, c, q, at, want)
	for _, ahead := range []string{"SELECT NULL, NULL FROM w", "SELECT 1, c FROM v GROUP BY c"} {
		if at > api.AtHaving || len(q.Selects) == api.MaxSelects {
			return
		}
		q.Selects = slices.Insert(q.Selects, 0, says(t, ahead).Selects...)
		isRefused(t, c, q, at+10*(len(q.Selects)-len(says(t, text).Selects)), want)
	}
}

// P12.1: the chapter's examples.
func TestExamples(t *testing.T) {
	comes(t, "SELECT b FROM t WHERE a = 1", "0 where (#0 = 1) get #1 => b text")
	fails(t, "SELECT a FROM t JOIN u ON t.a = u.a", 4, api.ErrTwice)
	fails(t, "SELECT b, COUNT(*) FROM t GROUP BY b HAVING a > 1", 5, api.ErrGroup)
	fails(t, "SELECT a FROM t WHERE SUM(a) = 1", 2, api.ErrAgg)
	fails(t, "SELECT * FROM t GROUP BY b", 4, api.ErrStar)
	fails(t, "SELECT a FROM t UNION ALL SELECT b FROM t", 16, api.ErrUnion)
	fails(t, "SELECT a FROM t ORDER BY 2", 90, api.ErrName)
}

// P12.1: a query with all that there may be.
func TestAllThereMayBe(t *testing.T) {
	comes(t, "SELECT DISTINCT x.a AS n, COUNT(*), MIN(e) FROM t x LEFT JOIN v ON x.b = e JOIN u ON u.a = x.a AND c WHERE NOT x.a = 5 GROUP BY x.a, c HAVING c AND COUNT(*) > 1 ORDER BY n DESC, 3 LIMIT 7",
		"0 left 2 on (#1 = #4) join 1 on ((#6 = #0) AND #2) where (NOT (#0 = 5)) group #0 #2 ALL MIN(#4) having (#1 AND (#2 > 1)) get #0, #2, #3 distinct => n int, - int, - text by -0 +2 limit 7")
	comes(t, "SELECT a, b FROM t UNION ALL SELECT DISTINCT 1 + d, NULL FROM v LEFT JOIN w ON w = d UNION ALL SELECT SUM(a), MAX('x') FROM u ORDER BY b LIMIT 0",
		"0 get #0, #1 | 2 left 3 on (#4 = #1) get (1 + #1), NULL distinct | 1 group SUM(#0) MAX('x') get #0, #1 => a int, b text by +1 limit 0")
	comes(t, "SELECT 1 FROM w", "3 get 1 => - int")
}

// P12.1: limits as they are, and distinct in whichever select.
func TestLimitAndDistinct(t *testing.T) {
	c := tables(t, few)
	for _, limit := range []int{-1, 0, 1, 400, api.MaxNumber} {
		q := says(t, "SELECT DISTINCT a FROM u UNION ALL SELECT a FROM u UNION ALL SELECT DISTINCT a FROM u")
		q.Limit = limit
		b, _, e := bind.Bind(c, q)
		if e != api.OK || b.Limit != limit || !b.Selects[0].Distinct || b.Selects[1].Distinct || !b.Selects[2].Distinct {
			t.Error(limit, b, e)
		}
	}
}

// P12.1: each node of an expression is itself.
func TestEachNode(t *testing.T) {
	for _, s := range []string{"+", "-", "*", "/"} {
		comes(t, "SELECT d "+s+" 2 FROM v", "2 get (#1 "+s+" 2) => - int")
		comes(t, "SELECT NULL "+s+" d FROM v", "2 get (NULL "+s+" #1) => - int")
		fails(t, "SELECT d "+s+" e FROM v", 4, api.ErrKind)
		fails(t, "SELECT c "+s+" d FROM v", 4, api.ErrKind)
	}
	for _, s := range []string{"=", "<>", "<", "<=", ">", ">="} {
		comes(t, "SELECT d "+s+" 2, e "+s+" 'x', c "+s+" v.b, NULL "+s+" c FROM v", "2 get (#1 "+s+" 2), (#2 "+s+" 'x'), (#0 "+s+" #3), (NULL "+s+" #0) => - bool, - bool, - bool, - bool")
		fails(t, "SELECT d "+s+" e FROM v", 4, api.ErrKind)
		fails(t, "SELECT c "+s+" 1 FROM v", 4, api.ErrKind)
	}
	for _, s := range []string{"AND", "OR"} {
		comes(t, "SELECT c "+s+" v.b, NULL "+s+" FALSE FROM v", "2 get (#0 "+s+" #3), (NULL "+s+" FALSE) => - bool, - bool")
		fails(t, "SELECT c "+s+" d FROM v", 4, api.ErrKind)
		fails(t, "SELECT e "+s+" c FROM v", 4, api.ErrKind)
	}
	comes(t, "SELECT -d, - NULL, NOT c, NOT NULL, e IS NULL, d IS NOT NULL FROM v", "2 get (- #1), (- NULL), (NOT #0), (NOT NULL), (NULL? #2), (THERE? #1) => - int, - int, - bool, - bool, - bool, - bool")
	fails(t, "SELECT -c FROM v", 4, api.ErrKind)
	fails(t, "SELECT NOT d FROM v", 4, api.ErrKind)
	fails(t, "SELECT (-e) IS NULL FROM v", 4, api.ErrKind)
	comes(t, "SELECT NULL, TRUE, 0, '', 9223372036854775807 FROM v", "2 get NULL, TRUE, 0, '', 9223372036854775807 => - null, - bool, - int, - text, - int")
}

// P12.1: conditions of each kind, and of null, at each place.
func TestTruths(t *testing.T) {
	for x, right := range map[string]bool{"TRUE": true, "NULL": true, "c": true, "d = 1": true, "e IS NULL": true, "NOT NULL": true, "d": false, "1": false, "e": false, "''": false, "d + 1": false, "- NULL": false} {
		held := func(text string, at int) {
			t.Helper()
			if !right {
				fails(t, text, at, api.ErrTruth)
			} else if _, _, e := bind.Bind(tables(t, few), says(t, text)); e != api.OK {
				t.Error(text, e)
			}
		}
		held("SELECT 1 FROM v JOIN w ON "+x, 1)
		held("SELECT 1 FROM w LEFT JOIN v ON "+x, 1)
		held("SELECT 1 FROM w JOIN u ON TRUE JOIN v ON "+x, 1)
		held("SELECT 1 FROM v WHERE "+x, 2)
		held("SELECT 1 FROM v GROUP BY c, d, e HAVING "+x, 5)
	}
	fails(t, "SELECT 1 FROM v HAVING COUNT(*)", 5, api.ErrTruth)
	fails(t, "SELECT 1 FROM v HAVING MIN(e)", 5, api.ErrTruth)
	comes(t, "SELECT 1 FROM v HAVING MIN(c)", "2 group MIN(#0) having #0 get 1 => - int")
	comes(t, "SELECT 1 FROM v HAVING MAX(NULL)", "2 group MAX(NULL) having #0 get 1 => - int")
	comes(t, "SELECT 1 FROM v JOIN w ON NULL WHERE NULL HAVING NULL", "2 join 3 on NULL where NULL group having NULL get 1 => - int")
}
