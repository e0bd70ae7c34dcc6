package parse_test

import (
	"slices"
	"strings"
	"testing"

	"bowsprit/api"
)

// least is SELECT * FROM t.
func least() api.Query {
	return api.Query{Selects: []api.Select{{Star: true, From: api.Source{Table: "t"}}}, Limit: -1}
}

// item is an item of a name alone.
func item(name string) api.Item {
	return api.Item{Tree: word(name).tree()}
}

// parted is a text that says a change of SELECT * FROM t.
type parted struct {
	text   string
	change func(q *api.Query, s *api.Select)
}

// partedQueries are each part of a query, there and missing.
func partedQueries() []parted {
	a, b := word("a").tree(), word("t . b").tree()
	items := func(l ...api.Item) func(*api.Query, *api.Select) {
		return func(_ *api.Query, s *api.Select) { s.Star, s.Items = false, l }
	}
	joins := func(l ...api.Join) func(*api.Query, *api.Select) {
		return func(_ *api.Query, s *api.Select) { s.Joins = l }
	}
	keys := func(l ...api.Key) func(*api.Query, *api.Select) {
		return func(q *api.Query, _ *api.Select) { q.Keys = l }
	}
	group := func(l ...api.Name) func(*api.Query, *api.Select) {
		return func(_ *api.Query, s *api.Select) { s.Group = l }
	}
	u := api.Source{Table: "u"}
	return []parted{
		{"SELECT * FROM t", func(*api.Query, *api.Select) {}},
		{"SELECT DISTINCT * FROM t", func(_ *api.Query, s *api.Select) { s.Distinct = true }},
		{"SELECT a FROM t", items(item("a"))},
		{"SELECT DISTINCT a FROM t", func(q *api.Query, s *api.Select) { items(item("a"))(q, s); s.Distinct = true }},
		{"SELECT a AS x FROM t", items(api.Item{Tree: a, As: "x"})},
		{"SELECT a, t.b AS x, 5 FROM t", items(item("a"), api.Item{Tree: b, As: "x"}, item("5"))},
		{"SELECT a, b, c, d, e, f AS f FROM t", items(item("a"), item("b"), item("c"), item("d"), item("e"), api.Item{Tree: word("f").tree(), As: "f"})},
		{"SELECT COUNT(*) AS n, -a FROM t", items(api.Item{Tree: word("COUNT ( * )").tree(), As: "n"}, api.Item{Tree: over(api.NNeg, word("a")).tree()})},
		{"SELECT * FROM t x", func(_ *api.Query, s *api.Select) { s.From.As = "x" }},
		{"SELECT * FROM t t", func(_ *api.Query, s *api.Select) { s.From.As = "t" }},
		{"SELECT * FROM t JOIN u ON a", joins(api.Join{Source: u, On: a})},
		{"SELECT * FROM t LEFT JOIN u ON a", joins(api.Join{Left: true, Source: u, On: a})},
		{"SELECT * FROM t JOIN u y ON a", joins(api.Join{Source: api.Source{Table: "u", As: "y"}, On: a})},
		{"SELECT * FROM t LEFT JOIN u y ON a JOIN u ON t.b", joins(api.Join{Left: true, Source: api.Source{Table: "u", As: "y"}, On: a}, api.Join{Source: u, On: b})},
		{"SELECT * FROM t JOIN u ON a LEFT JOIN u z ON t.b", joins(api.Join{Source: u, On: a}, api.Join{Left: true, Source: api.Source{Table: "u", As: "z"}, On: b})},
		{"SELECT * FROM t x JOIN u ON a", func(q *api.Query, s *api.Select) { joins(api.Join{Source: u, On: a})(q, s); s.From.As = "x" }},
		{"SELECT * FROM t WHERE a", func(_ *api.Query, s *api.Select) { s.Where = a }},
		{"SELECT * FROM t GROUP BY a", group(api.Name{Name: "a"})},
		{"SELECT * FROM t GROUP BY t.b", group(api.Name{Table: "t", Name: "b"})},
		{"SELECT * FROM t GROUP BY a, t.b, a", group(api.Name{Name: "a"}, api.Name{Table: "t", Name: "b"}, api.Name{Name: "a"})},
		{"SELECT * FROM t HAVING a", func(_ *api.Query, s *api.Select) { s.Having = a }},
		{"SELECT * FROM t WHERE a HAVING t.b", func(_ *api.Query, s *api.Select) { s.Where, s.Having = a, b }},
		{"SELECT * FROM t JOIN u ON a WHERE a GROUP BY a HAVING t.b", func(q *api.Query, s *api.Select) {
			joins(api.Join{Source: u, On: a})(q, s)
			s.Where, s.Group, s.Having = a, []api.Name{{Name: "a"}}, b
		}},
		{"SELECT * FROM t ORDER BY a", keys(api.Key{Name: "a"})},
		{"SELECT * FROM t ORDER BY a ASC", keys(api.Key{Name: "a"})},
		{"SELECT * FROM t ORDER BY a DESC", keys(api.Key{Name: "a", Desc: true})},
		{"SELECT * FROM t ORDER BY 0", keys(api.Key{})},
		{"SELECT * FROM t ORDER BY 2 ASC", keys(api.Key{Number: 2})},
		{"SELECT * FROM t ORDER BY 2147483647 DESC", keys(api.Key{Number: 2147483647, Desc: true})},
		{"SELECT * FROM t ORDER BY a DESC, 1 ASC, b", keys(api.Key{Name: "a", Desc: true}, api.Key{Number: 1}, api.Key{Name: "b"})},
		{"SELECT * FROM t LIMIT 0", func(q *api.Query, _ *api.Select) { q.Limit = 0 }},
		{"SELECT * FROM t LIMIT 2147483647", func(q *api.Query, _ *api.Select) { q.Limit = 2147483647 }},
		{"SELECT * FROM t ORDER BY 1 LIMIT 5", func(q *api.Query, _ *api.Select) { q.Keys, q.Limit = []api.Key{{Number: 1}}, 5 }},
		{"SELECT * FROM t UNION ALL SELECT * FROM t", func(q *api.Query, _ *api.Select) { q.Selects = slices.Repeat(q.Selects, 2) }},
		{"SELECT * FROM t WHERE a UNION ALL SELECT a FROM u UNION ALL SELECT * FROM t ORDER BY a LIMIT 1", func(q *api.Query, s *api.Select) {
			s.Where = a
			q.Selects = append(q.Selects, api.Select{Items: []api.Item{item("a")}, From: u}, least().Selects[0])
			q.Keys, q.Limit = []api.Key{{Name: "a"}}, 1
		}},
	}
}

// P9.1: each part of a query that may be missing, there and missing.
func TestPartsOfQueries(t *testing.T) {
	for _, x := range partedQueries() {
		q := least()
		x.change(&q, &q.Selects[0])
		isQuery(t, x.text, q)
	}
}

// P9.1: all parts at once.
func TestWholeQuery(t *testing.T) {
	one := api.Select{
		Distinct: true,
		Items:    []api.Item{{Tree: over(api.NAdd, word("a"), word("x . b")).tree(), As: "s"}, {Tree: over(api.NSum, word("a")).tree()}},
		From:     api.Source{Table: "t", As: "x"},
		Joins:    []api.Join{{Left: true, Source: api.Source{Table: "u", As: "y"}, On: over(api.NEq, word("a"), word("x . b")).tree()}, {Source: api.Source{Table: "v"}, On: word("TRUE").tree()}},
		Where:    over(api.NLt, word("a"), word("5")).tree(),
		Group:    []api.Name{{Table: "x", Name: "b"}, {Name: "a"}},
		Having:   over(api.NIsNull, over(api.NMax, word("x . b"))).tree(),
	}
	text := "SELECT DISTINCT a + x.b AS s, SUM(a) FROM t x LEFT JOIN u y ON a = x.b JOIN v ON TRUE WHERE a < 5 GROUP BY x.b, a HAVING MAX(x.b) IS NULL"
	isQuery(t, text+" UNION ALL "+text+" ORDER BY s DESC, 2 LIMIT 5", api.Query{Selects: []api.Select{one, one}, Keys: []api.Key{{Name: "s", Desc: true}, {Number: 2}}, Limit: 5})
}

// P9.1: as many as there may be, and one more: it is wrong where one more begins, whatever comes behind that.
func TestOneTooMany(t *testing.T) {
	for _, ahead := range []string{"SELECT ", "SELECT DISTINCT ", "SELECT * FROM t UNION ALL SELECT "} {
		isOneTooMany(t, ahead+"a", ", a", " FROM t", api.MaxItems)
		isOneTooMany(t, ahead+"a AS a", ", 5 AS a", " FROM t", api.MaxItems)
		isOneTooMany(t, ahead+"* FROM t GROUP BY a", ", t.a", " HAVING a", api.MaxNames)
		isOneTooMany(t, ahead+"a, a FROM t WHERE a GROUP BY t.a", ", a", " ORDER BY a, b, c LIMIT 5", api.MaxNames)
		isOneTooMany(t, ahead+"* FROM t ORDER BY a", ", 5 DESC", " LIMIT 1", api.MaxKeys)
		isOneTooMany(t, ahead+"* FROM t GROUP BY a, b, c ORDER BY 1 ASC", ", a", "", api.MaxKeys)
		for _, join := range []string{" JOIN u ON a", " LEFT JOIN u x ON a = b"} {
			isOneTooMany(t, ahead+"* FROM t JOIN v ON a", join, " WHERE a", api.MaxJoins)
			isOneTooMany(t, ahead+"* FROM t LEFT JOIN v ON a", join, " GROUP BY a", api.MaxJoins)
		}
	}
	isOneTooMany(t, "SELECT * FROM t", " UNION ALL SELECT a FROM t", " ORDER BY a", api.MaxSelects)
	isOneTooMany(t, "SELECT * FROM t JOIN u ON a JOIN v ON b", " UNION ALL SELECT * FROM t JOIN u ON a JOIN v ON b", " LIMIT 1", api.MaxSelects)
}

// isOneTooMany asks for all counts up to some beyond the most there may be.
func isOneTooMany(t *testing.T, first, next, behind string, most int) {
	t.Helper()
	for count := range most + 3 {
		text := first + strings.Repeat(next, count)
		if count+1 <= most {
			if _, at, e := parsed("query", text+behind); at != 0 || e != api.OK {
				t.Errorf("%q: %v %v", text+behind, at, e)
			}
			continue
		}
		begins := strings.Fields(next)[0]
		place := len(first) + (most-1)*len(next) + strings.Index(next, begins)
		isNoQuery(t, text+behind, place, api.ErrMany)
		isNoQuery(t, text[:place]+begins, place, api.ErrMany)
		isNoQuery(t, text[:place]+begins+" 5 5 5", place, api.ErrMany)
	}
}

// P9.1: what there may be just so many of is counted in each select anew.
func TestCountedAnew(t *testing.T) {
	six := "SELECT a, b, c, d, e, f FROM t JOIN u ON a LEFT JOIN v ON b GROUP BY a, b, c"
	if _, at, e := parsed("query", strings.Repeat(six+" UNION ALL ", 2)+six+" ORDER BY a, b, c"); at != 0 || e != api.OK {
		t.Error(at, e)
	}
}

// P9.1: where one more may not stand at all, that is what is wrong, not that it is one too many.
func TestNotOneTooMany(t *testing.T) {
	isWrongAt(t, "SELECT *~, a FROM t", api.ErrParse)
	isWrongAt(t, "SELECT a, b, c, d, e, f FROM t~, u", api.ErrParse)
	isWrongAt(t, "SELECT a, b, c, d, e, ~, f, g FROM t", api.ErrParse)
	isWrongAt(t, "SELECT a, b, c, d, e, f ~g, h FROM t", api.ErrParse)
	isWrongAt(t, "SELECT * FROM t GROUP BY a, b, c HAVING a~, b", api.ErrParse)
	isWrongAt(t, "SELECT * FROM t JOIN u ON a JOIN u ON a WHERE a ~JOIN u ON a", api.ErrParse)
	isWrongAt(t, "SELECT * FROM t JOIN u ON a JOIN u ON a GROUP BY a ~LEFT JOIN u ON a", api.ErrParse)
	isWrongAt(t, "SELECT * FROM t UNION ALL SELECT * FROM t UNION ALL SELECT * FROM t ORDER BY a ~UNION ALL SELECT * FROM t", api.ErrParse)
	isWrongAt(t, "SELECT * FROM t UNION ALL SELECT * FROM t UNION ALL SELECT * FROM t LIMIT 1 ~UNION ALL SELECT * FROM t", api.ErrParse)
	isWrongAt(t, "SELECT * FROM t ORDER BY a, b, c LIMIT 5~, d", api.ErrParse)
}

// P9.1: numbers behind ORDER BY and LIMIT are at most 2^31 - 1; elsewhere they may be greater.
func TestNumbers(t *testing.T) {
	for _, n := range []string{"2147483648", "4294967295", "4294967296", "4294967297", "9223372036854775807"} {
		isWrongAt(t, "SELECT * FROM t LIMIT ~"+n, api.ErrParse)
		isWrongAt(t, "SELECT * FROM t ORDER BY ~"+n, api.ErrParse)
		isWrongAt(t, "SELECT * FROM t ORDER BY a, 1 DESC, ~"+n+" ASC LIMIT 1", api.ErrParse)
		isWrongAt(t, "SELECT * FROM t ORDER BY 2147483647 LIMIT ~"+n, api.ErrParse)
		isExpr(t, n, n)
	}
}

// P9.1: tokens that may not stand where they stand, of several kinds; the place of each.
func TestWrongTokens(t *testing.T) {
	for _, marked := range []string{
		"~", "  ~", "~a", "~FROM t", "~(SELECT * FROM t)", "SELECT ~", "SELECT ~FROM t", "SELECT ~, a FROM t", "SELECT DISTINCT ~DISTINCT a FROM t",
		"SELECT ~ALL a FROM t", "SELECT a, ~* FROM t", "SELECT a, ~DISTINCT b FROM t", "SELECT * ~* FROM t", "SELECT * ~a FROM t", "SELECT * ~AS a FROM t",
		"SELECT a ~b FROM t", "SELECT a AS ~5 FROM t", "SELECT a AS ~SELECT FROM t", "SELECT a AS ~'b' FROM t", "SELECT a AS ~* FROM t", "SELECT a AS b~.c FROM t",
		"SELECT a AS b ~c FROM t", "SELECT a AS b ~AS c FROM t", "SELECT t.~* FROM t", "SELECT t.~5 FROM t", "SELECT t.a~.b FROM t", "SELECT ~SELECT FROM t",
		"SELECT *~", "SELECT a ~WHERE b", "SELECT * FROM ~", "SELECT * FROM ~5", "SELECT * FROM ~'t'", "SELECT * FROM ~LEFT", "SELECT * FROM ~(t)", "SELECT * FROM t~.u",
		"SELECT * FROM t ~AS x", "SELECT * FROM t x ~y", "SELECT * FROM t ~5", "SELECT * FROM t~, u", "SELECT * FROM t ~ON a",
		"SELECT * FROM t LEFT~", "SELECT * FROM t LEFT ~u", "SELECT * FROM t LEFT ~LEFT JOIN u ON a", "SELECT * FROM t JOIN ~LEFT u ON a", "SELECT * FROM t JOIN ~5 ON a",
		"SELECT * FROM t JOIN u~", "SELECT * FROM t JOIN u ~WHERE a", "SELECT * FROM t JOIN u ~AS x ON a", "SELECT * FROM t JOIN u x ~y ON a", "SELECT * FROM t JOIN u ON~", "SELECT * FROM t JOIN u ON ~ON a",
		"SELECT * FROM t WHERE~", "SELECT * FROM t WHERE ~WHERE a", "SELECT * FROM t WHERE a ~WHERE b", "SELECT * FROM t WHERE ~*", "SELECT * FROM t WHERE a~, b",
		"SELECT * FROM t WHERE a ~JOIN u ON a", "SELECT * FROM t GROUP~", "SELECT * FROM t GROUP ~a", "SELECT * FROM t GROUP BY~", "SELECT * FROM t GROUP BY ~5",
		"SELECT * FROM t GROUP BY a ~+ 1", "SELECT * FROM t GROUP BY ~(a)", "SELECT * FROM t GROUP BY a ~ASC", "SELECT * FROM t GROUP BY a,~", "SELECT * FROM t GROUP BY a, ~5",
		"SELECT * FROM t GROUP BY a.~", "SELECT * FROM t GROUP BY a.b~.c", "SELECT * FROM t GROUP BY a ~WHERE b", "SELECT * FROM t HAVING~", "SELECT * FROM t HAVING a ~GROUP BY a",
		"SELECT * FROM t HAVING a ~HAVING b", "SELECT * FROM t UNION~", "SELECT * FROM t UNION ~SELECT * FROM t", "SELECT * FROM t UNION ALL~", "SELECT * FROM t UNION ALL ~(SELECT * FROM t)",
		"SELECT * FROM t UNION ALL ~ALL SELECT * FROM t", "SELECT * FROM t ORDER~", "SELECT * FROM t ORDER ~a", "SELECT * FROM t ORDER BY~", "SELECT * FROM t ORDER BY ~'a'",
		"SELECT * FROM t ORDER BY t~.a", "SELECT * FROM t ORDER BY a ~+ 1", "SELECT * FROM t ORDER BY ~-1", "SELECT * FROM t ORDER BY ~(a)", "SELECT * FROM t ORDER BY ~COUNT(*)",
		"SELECT * FROM t ORDER BY a ASC ~DESC", "SELECT * FROM t ORDER BY a DESC ~DESC", "SELECT * FROM t ORDER BY ~DESC", "SELECT * FROM t ORDER BY a,~", "SELECT * FROM t ORDER BY a ~b",
		"SELECT * FROM t ORDER BY a ~UNION ALL SELECT * FROM t", "SELECT * FROM t ORDER BY a ~ORDER BY b", "SELECT * FROM t LIMIT~", "SELECT * FROM t LIMIT ~a", "SELECT * FROM t LIMIT ~-1",
		"SELECT * FROM t LIMIT ~ALL", "SELECT * FROM t LIMIT 1 ~2", "SELECT * FROM t LIMIT 1~, 2", "SELECT * FROM t LIMIT 1 ~ORDER BY a", "SELECT * FROM t LIMIT 1 ~LIMIT 1", "SELECT * FROM t LIMIT 1 ~)",
		"SELECT * FROM t ~)", "SELECT * FROM t ~SELECT * FROM t", "SELECT * FROM t ~AND a",
	} {
		isWrongAt(t, marked, api.ErrParse)
	}
	for _, marked := range []string{
		"~", "   ~", "~)", "(~)", "(~", "(a~", "(a ~b)", "(a)~)", "(a~, b)", "((a)~", "~*", "~+ a", "a +~", "a + ~+ b", "a ~NOT b", "a AND~", "~AND a", "a AND ~AND b", "a OR ~OR b", "a AND ~OR b",
		"NOT~", "NOT ~AND a", "a = ~NOT b", "a + ~NOT b", "- ~NOT a", "a = b ~= c", "a = b ~< c", "a < b ~IS NULL", "a IS NULL ~IS NULL", "a IS NULL ~= b", "a IS NOT NULL ~<> b",
		"a IS~", "a IS ~TRUE", "a IS ~a", "a IS NOT~", "a IS NOT ~NOT NULL", "a IS NOT ~FALSE", "a IS NULL ~NULL", "a IS NULL ~+ 1", "a ~TRUE", "1 ~2", "1 ~a", "1 ~'a'", "'a' ~'b'", "a ~AS b", "a ~ASC",
		"a.~", "a.~5", "a.~SUM", "a.~'b'", "a.~*", "a.b~.c", "5~.a", "'a'~.b", "TRUE~.a", "a ~(b)", "5 ~(b)", "TRUE ~(b)", "a *~", "a * ~/ b", "a / ~* b", "a <~", "a < ~> b", "a > ~= b", "~= a", "~IS NULL", "~BY", "~SELECT", "a ~FROM t",
		"~ASC", "(~SELECT * FROM t)",
	} {
		isWrongExprAt(t, marked, api.ErrParse)
	}
}
