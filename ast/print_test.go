package ast_test

import (
	"slices"
	"strings"
	"testing"

	"bowsprit/api"
	"bowsprit/ast"
	"bowsprit/lex"
)

// patterns are how each tag with parts is written, a # for each part.
var patterns = map[int]string{
	api.NNeg: "- #", api.NNot: "NOT #", api.NIsNull: "# IS NULL", api.NNotNull: "# IS NOT NULL",
	api.NCount: "COUNT(#)", api.NSum: "SUM(#)", api.NMin: "MIN(#)", api.NMax: "MAX(#)",
	api.NAdd: "# + #", api.NSub: "# - #", api.NMul: "# * #", api.NDiv: "# / #", api.NEq: "# = #", api.NNe: "# <> #",
	api.NLt: "# < #", api.NLe: "# <= #", api.NGt: "# > #", api.NGe: "# >= #", api.NAnd: "# AND #", api.NOr: "# OR #",
}

// laid puts what is written of parts in the places of a pattern.
func laid(tag int, parts ...string) string {
	s := patterns[tag]
	for _, p := range parts {
		s = strings.Replace(s, "#", p, 1)
	}
	return s
}

// parted is how many parts a tag has.
func parted(tag int) int {
	return strings.Count(patterns[tag], "#")
}

func isWritten(t *testing.T, x api.Tree, want string) {
	t.Helper()
	if s, e := ast.PrintTree(x); e != api.OK || s != want {
		t.Errorf("%v is written %q, %v, not %q", x, s, e, want)
	}
}

func isQueryWritten(t *testing.T, q api.Query, want string) {
	t.Helper()
	if s, e := ast.Print(q); e != api.OK || s != want {
		t.Errorf("%v is written %q, %v, not %q", q, s, e, want)
	}
}

// P8.4: leaves: literals, names with a table and without, COUNT(*).
func TestLeavesAreWritten(t *testing.T) {
	isWritten(t, tree(literal(api.Value{})), "NULL")
	isWritten(t, tree(literal(api.Value{Kind: api.VBool})), "FALSE")
	isWritten(t, tree(literal(api.Value{Kind: api.VBool, N: 1})), "TRUE")
	isWritten(t, tree(number(0)), "0")
	isWritten(t, tree(number(10)), "10")
	isWritten(t, tree(number(1<<63-1)), "9223372036854775807")
	isWritten(t, tree(text("")), "''")
	isWritten(t, tree(text("it's")), "'it''s'")
	isWritten(t, tree(text(" ~")), "' ~'")
	isWritten(t, tree(text(strings.Repeat("'", 40))), strings.Repeat("'", 82))
	isWritten(t, tree(named("a")), "a")
	isWritten(t, tree(named("abcdefghij_12345")), "abcdefghij_12345")
	isWritten(t, tree(column("t", "b")), "t.b")
	isWritten(t, tree(leaf(api.NCountAll)), "COUNT(*)")
}

// P8.4: each tag with parts around each tag: parentheses around parts that have parts themselves, and none around calls, leaves, and within calls.
func TestParentheses(t *testing.T) {
	a, b := tree(named("a")), tree(column("t", "b"))
	type one struct {
		x       api.Tree
		s       string
		within  string
		isInner bool
	}
	inner := []one{{x: a, s: "a"}, {x: tree(text("b")), s: "'b'"}, {x: tree(leaf(api.NCountAll)), s: "COUNT(*)"}, {x: tree(number(3)), s: "3"}}
	for tag := range patterns {
		x, s := on(tag, b), laid(tag, "t.b")
		if parted(tag) == 2 {
			x, s = on(tag, b, a), laid(tag, "t.b", "a")
		}
		isWritten(t, x, s)
		inner = append(inner, one{x: x, s: s, isInner: !slices.Contains(calls, tag)})
	}
	for k := range inner {
		inner[k].within = inner[k].s
		if inner[k].isInner {
			inner[k].within = "(" + inner[k].s + ")"
		}
	}
	for tag := range patterns {
		for _, l := range inner {
			switch {
			case slices.Contains(calls, tag):
				isWritten(t, on(tag, l.x), laid(tag, l.s))
			case parted(tag) == 1:
				isWritten(t, on(tag, l.x), laid(tag, l.within))
			default:
				for _, r := range inner {
					isWritten(t, on(tag, l.x, r.x), laid(tag, l.within, r.within))
				}
			}
		}
	}
}

// P8.4: the chapter's examples, and trees of several kinds.
func TestTreesAreWritten(t *testing.T) {
	a, b := tree(named("a")), tree(column("t", "b"))
	isWritten(t, equal(on(api.NAdd, a, tree(number(1))), b), "(a + 1) = t.b")
	isWritten(t, on(api.NNot, on(api.NIsNull, on(api.NSum, a))), "NOT (SUM(a) IS NULL)")
	isWritten(t, on(api.NAdd, tree(number(1)), on(api.NMul, a, on(api.NNeg, tree(number(2))))), "1 + (a * (- 2))")
	isWritten(t, on(api.NNeg, on(api.NNeg, on(api.NNeg, a))), "- (- (- a))")
	isWritten(t, on(api.NSum, on(api.NSum, on(api.NNeg, a))), "SUM(SUM(- a))")
	isWritten(t, on(api.NCount, on(api.NAdd, on(api.NAdd, a, b), a)), "COUNT((a + t.b) + a)")
	isWritten(t, on(api.NAnd, on(api.NMax, a), on(api.NNotNull, on(api.NOr, a, b))), "MAX(a) AND ((a OR t.b) IS NOT NULL)")
	isWritten(t, on(api.NSub, a, on(api.NSub, a, a)), "a - (a - a)")
	isWritten(t, on(api.NSub, on(api.NSub, a, a), a), "(a - a) - a")
	isWritten(t, chain(api.MaxDepth), strings.Repeat("- (", api.MaxDepth-2)+"- a"+strings.Repeat(")", api.MaxDepth-2))
	s, e := ast.PrintTree(wide(api.MaxNodes))
	if nodes := strings.Count(s, "a") + strings.Count(s, "AND") + strings.Count(s, "NOT"); e != api.OK || nodes != api.MaxNodes || strings.Count(s, "(") != strings.Count(s, ")") {
		t.Error(s, e)
	}
}

// trees are all trees of some leaves, and of those once and twice more over them.
func trees() []api.Tree {
	leaves := []api.Tree{tree(named("a")), tree(column("a", "a")), tree(number(1)), tree(text("a")), tree(literal(api.Value{})), tree(leaf(api.NCountAll))}
	over := func(l []api.Tree) []api.Tree {
		var out []api.Tree
		for tag := api.NNeg; tag <= api.NOr; tag++ {
			for _, x := range l {
				if parted(tag) == 1 {
					out = append(out, on(tag, x))
					continue
				}
				for _, y := range l {
					out = append(out, on(tag, x, y))
				}
			}
		}
		return out
	}
	first := over(leaves)
	second := over(append(over(leaves[:1]), leaves[:2]...))
	for _, x := range first {
		second = append(second, on(api.NNot, x), on(api.NSum, x), on(api.NOr, x, leaves[0]), on(api.NOr, leaves[0], x))
	}
	return slices.Concat(leaves, first, second)
}

// P8.5: unlike trees are written unlike, with the tokens of a text.
func TestUnlikeTreesAreWrittenUnlike(t *testing.T) {
	written := map[string]api.Tree{}
	for _, x := range trees() {
		s, e := ast.PrintTree(x)
		other, there := written[s]
		if e != api.OK || there && !slices.Equal(other.Nodes, x.Nodes) {
			t.Errorf("%v, %v and %v are both %q", e, x, other, s)
		}
		if there != ast.SameTree(other, x) {
			t.Errorf("%v, %v: %v", x, other, there)
		}
		written[s] = x
		if l, _, e := lex.Tokens(s); e != api.OK || len(l) < len(x.Nodes) {
			t.Errorf("%q: %v %v", s, l, e)
		}
	}
	if len(written) < 1500 {
		t.Errorf("%d trees", len(written))
	}
}

// P8.5: queries that have one tree, or one name, at unlike places are written unlike.
func TestTreesAtOtherPlaces(t *testing.T) {
	a := tree(named("a"))
	put := []func(*api.Query){
		func(q *api.Query) {},
		func(q *api.Query) { q.Selects[0].Where = a },
		func(q *api.Query) { q.Selects[0].Having = a },
		func(q *api.Query) { q.Selects[0].Group = []api.Name{{Name: "a"}} },
		func(q *api.Query) { q.Keys = []api.Key{{Name: "a"}} },
		func(q *api.Query) { q.Selects[0].From.As = "a" },
		func(q *api.Query) { q.Selects[0].Joins = []api.Join{{Source: api.Source{Table: "a"}, On: a}} },
		func(q *api.Query) { q.Selects[0].Star, q.Selects[0].Items = false, []api.Item{{Tree: a}} },
		func(q *api.Query) { q.Selects[0].Star, q.Selects[0].Items = false, []api.Item{{Tree: a}, {Tree: a}} },
		func(q *api.Query) { q.Selects[0].Star, q.Selects[0].Items = false, []api.Item{{Tree: a, As: "a"}} },
		func(q *api.Query) { q.Limit = 0 },
	}
	written := map[string]int{}
	for i, first := range put {
		for j, second := range put {
			q := least()
			first(&q)
			second(&q)
			s, e := ast.Print(q)
			other := least()
			if at, there := written[s]; there {
				put[at/len(put)](&other)
				put[at%len(put)](&other)
			} else {
				other = q
			}
			if e != api.OK || !ast.Same(q, other) {
				t.Errorf("%v, %v and %v are both %q", e, q, other, s)
			}
			written[s] = i*len(put) + j
		}
	}
}

// P8.4: the chapter's example, what is least, and what has all parts.
func TestQueriesAreWritten(t *testing.T) {
	sum := on(api.NSum, tree(named("b")))
	isQueryWritten(t, api.Query{
		Selects: []api.Select{{Items: []api.Item{{Tree: tree(named("a"))}, {Tree: sum, As: "s"}}, From: api.Source{Table: "t", As: "x"}, Group: []api.Name{{Name: "a"}}, Having: on(api.NGt, sum, tree(number(1)))}},
		Keys:    []api.Key{{Name: "s", Desc: true}}, Limit: 5,
	}, "SELECT a, SUM(b) AS s FROM t x GROUP BY a HAVING SUM(b) > 1 ORDER BY s DESC LIMIT 5")
	isQueryWritten(t, least(), "SELECT * FROM t")
	one := "SELECT DISTINCT a + x.b AS s, SUM(a) FROM t x LEFT JOIN u y ON a = x.b JOIN v ON TRUE WHERE a < 5 GROUP BY x.b, a HAVING MAX(x.b) IS NULL"
	isQueryWritten(t, full(), one+" UNION ALL "+one+" ORDER BY s DESC, 2 LIMIT 5")
}

// P8.4: each part of a query, there and not.
func TestPartsOfQueries(t *testing.T) {
	item := func(s string) api.Item { return api.Item{Tree: tree(named(s))} }
	for _, x := range []struct {
		change func(q *api.Query, s *api.Select)
		want   string
	}{
		{func(q *api.Query, s *api.Select) { s.Distinct = true }, "SELECT DISTINCT * FROM t"},
		{func(q *api.Query, s *api.Select) { s.Star, s.Items = false, []api.Item{item("a")} }, "SELECT a FROM t"},
		{func(q *api.Query, s *api.Select) {
			s.Star, s.Items = false, []api.Item{item("a"), item("b"), item("c"), item("d"), item("e"), {Tree: equal(tree(named("f")), tree(number(0))), As: "g"}}
		}, "SELECT a, b, c, d, e, f = 0 AS g FROM t"},
		{func(q *api.Query, s *api.Select) { s.From.As = "x" }, "SELECT * FROM t x"},
		{func(q *api.Query, s *api.Select) {
			s.Joins = []api.Join{{Source: api.Source{Table: "u"}, On: tree(named("a"))}}
		}, "SELECT * FROM t JOIN u ON a"},
		{func(q *api.Query, s *api.Select) {
			s.From.As, s.Joins = "x", []api.Join{{Left: true, Source: api.Source{Table: "u", As: "y"}, On: on(api.NNot, tree(named("a")))}, {Left: true, Source: api.Source{Table: "u"}, On: tree(text("a"))}}
		}, "SELECT * FROM t x LEFT JOIN u y ON NOT a LEFT JOIN u ON 'a'"},
		{func(q *api.Query, s *api.Select) { s.Where = on(api.NIsNull, tree(named("a"))) }, "SELECT * FROM t WHERE a IS NULL"},
		{func(q *api.Query, s *api.Select) { s.Where = tree(text("")) }, "SELECT * FROM t WHERE ''"},
		{func(q *api.Query, s *api.Select) { s.Group = []api.Name{{Name: "a"}} }, "SELECT * FROM t GROUP BY a"},
		{func(q *api.Query, s *api.Select) {
			s.Group = []api.Name{{Name: "a"}, {Table: "t", Name: "b"}, {Name: "c"}}
		}, "SELECT * FROM t GROUP BY a, t.b, c"},
		{func(q *api.Query, s *api.Select) { s.Having = tree(leaf(api.NCountAll)) }, "SELECT * FROM t HAVING COUNT(*)"},
		{func(q *api.Query, s *api.Select) { s.Where, s.Having = tree(number(1)), tree(number(2)) }, "SELECT * FROM t WHERE 1 HAVING 2"},
		{func(q *api.Query, s *api.Select) { q.Keys = []api.Key{{}} }, "SELECT * FROM t ORDER BY 0"},
		{func(q *api.Query, s *api.Select) {
			q.Keys = []api.Key{{Number: 2147483647, Desc: true}, {Name: "a"}, {Name: "b", Desc: true}}
		}, "SELECT * FROM t ORDER BY 2147483647 DESC, a, b DESC"},
		{func(q *api.Query, s *api.Select) { q.Limit = 0 }, "SELECT * FROM t LIMIT 0"},
		{func(q *api.Query, s *api.Select) { q.Limit = 2147483647 }, "SELECT * FROM t LIMIT 2147483647"},
		{func(q *api.Query, s *api.Select) { q.Limit, q.Keys = 7, []api.Key{{Number: 1}} }, "SELECT * FROM t ORDER BY 1 LIMIT 7"},
		{func(q *api.Query, s *api.Select) { q.Selects = slices.Repeat(q.Selects, 2) }, "SELECT * FROM t UNION ALL SELECT * FROM t"},
		{func(q *api.Query, s *api.Select) {
			s.Where = tree(named("a"))
			q.Selects = slices.Concat(q.Selects, least().Selects, q.Selects)
		}, "SELECT * FROM t WHERE a UNION ALL SELECT * FROM t UNION ALL SELECT * FROM t WHERE a"},
	} {
		q := least()
		x.change(&q, &q.Selects[0])
		isQueryWritten(t, q, x.want)
	}
}
