package parse_test

import (
	"math/rand"
	"strings"
	"testing"

	"bowsprit/api"
	"bowsprit/parse"
)

// isAsDeep holds a text of a shape, behind blanks, against its size: it is what it says, or too deep at its first token.
func isAsDeep(t *testing.T, text string, s *shape) bool {
	t.Helper()
	nodes, depth := s.size()
	if nodes <= api.MaxNodes && depth <= api.MaxDepth {
		isTree(t, text, s)
		return false
	}
	isNoExpr(t, text, len(text)-len(strings.TrimLeft(text, " \t\r\n")), api.ErrDeep)
	return true
}

// P9.1: a depth of 20, and of one more, by each tag; of two parts by the left one, and by the right one.
func TestDepth(t *testing.T) {
	for tag, f := range forms {
		for side := range f.levels {
			s := word("a")
			for depth := 2; depth <= api.MaxDepth+3; depth++ {
				parts := []*shape{s, s}[:len(f.levels)]
				for k := range parts {
					if k != side {
						parts[k] = word("b")
					}
				}
				s = over(tag, parts...)
				text := s.least()
				if len(text) > api.MaxSource {
					t.Fatal(tag, len(text))
				}
				if isDeep := isAsDeep(t, text, s); isDeep != (depth > api.MaxDepth) {
					t.Error(text, isDeep)
				}
				isAsDeep(t, "\n \t"+text+" ", s)
			}
		}
	}
}

// P9.1: 300 nodes, and more, of no great depth.
func TestNodes(t *testing.T) {
	for n := api.MaxNodes - 9; n <= api.MaxNodes+20; n++ {
		s := sized(n)
		nodes, depth := s.size()
		if nodes != n || depth > api.MaxDepth {
			t.Fatal(n, nodes, depth)
		}
		text := s.least()
		if len(text) > api.MaxSource {
			t.Fatal(n, len(text))
		}
		if isDeep := isAsDeep(t, text, s); isDeep != (n > api.MaxNodes) {
			t.Error(n, isDeep)
		}
	}
}

// P9.1: what is deep by parentheses alone is not deep.
func TestDeepByParentheses(t *testing.T) {
	for _, n := range []int{1, api.MaxDepth, api.MaxDepth + 1, 100, (api.MaxSource - 1) / 2} {
		isTree(t, strings.Repeat("(", n)+"a"+strings.Repeat(")", n), word("a"))
		isNoExpr(t, strings.Repeat("(", n)+"a"+strings.Repeat(")", n-1), 2*n, api.ErrParse)
		isNoExpr(t, strings.Repeat("(", n), n, api.ErrParse)
	}
	s := word("a")
	text := "a"
	for range api.MaxDepth - 1 {
		s, text = over(api.NAdd, s, word("b")), "((((("+text+")))) + b)"
	}
	isTree(t, text, s)
	isTree(t, "("+text+")", s)
	isNoExpr(t, "  ((("+text+")) + b)", 2, api.ErrDeep)
	isNoExpr(t, "("+text+"))", len(text)+2, api.ErrParse)
}

// signs is a minus n times, ahead of a name.
func signs(n int) string {
	return strings.Repeat("-", n) + "a"
}

// P9.1: too deep goes ahead of what the token behind the expr may not be, but not of a token within it, nor of one ahead of it.
func TestWhatIsMetFirst(t *testing.T) {
	deep := signs(api.MaxDepth)
	for _, marked := range []string{
		"~#", "  ~#", "~# b", "~#)", "~# = b = c", "~# = b IS NULL", "~# IS NULL IS NULL", "~# IS NULL = b", "~#, b", "~# AS b", "~# FROM", "~# 5", "~#.b.c", "~# ASC", "~# (a)", "~# NOT",
		"~(#) b", "~(#))", "~a + (#) 5", "~COUNT(#)(a)", "~(SUM(#)) IS NULL NULL", "~NOT # NOT",
	} {
		isWrongExprAt(t, strings.Replace(marked, "#", deep, 1), api.ErrDeep)
	}
	for _, marked := range []string{
		"# +~", "# + ~)", "# AND~", "# OR NOT ~FROM", "# = ~= b", "# IS~", "# IS ~b", "# IS NOT ~TRUE", "#.~", "# * -~", "# * ~* b", "# + (~", "# + (b~", "# + (b ~c)", "(#~", "(# ~b)", "(#~, b)", "((#)~",
		"COUNT(#~, b)", "SUM(#~", "SUM(# ~AS b)", "a ~b #", "a = b ~= #", "a IS ~#", "~* #", "#.~5", "# IS NOT ~NOT",
	} {
		isWrongExprAt(t, strings.Replace(marked, "#", deep, 1), api.ErrParse)
	}
	isNoExpr(t, strings.Repeat("-", 30), 30, api.ErrParse)
	isNoExpr(t, strings.Repeat("-", 30)+")", 30, api.ErrParse)
	isNoExpr(t, strings.Repeat("NOT ", 30)+"OR", 120, api.ErrParse)
	isNoExpr(t, deep+" ?", len(deep)+1, api.ErrLex)
}

// P9.1: too deep, at each place of a query where an expr stands within no other one, at its first token.
func TestDeepInQueries(t *testing.T) {
	for _, marked := range []string{
		"SELECT ~#", "SELECT ~# FROM t", "SELECT DISTINCT ~# AS x FROM t", "SELECT ~# AS 5 FROM t", "SELECT ~# b FROM t", "SELECT ~#, a FROM t", "SELECT a,  ~#, * FROM t",
		"SELECT a, b, c, d, e, ~# FROM t", "SELECT a, b, c, d, e, ~#, g FROM t", "SELECT * FROM t JOIN u ON ~#", "SELECT * FROM t JOIN u ON ~# = b = c", "SELECT * FROM t JOIN u ON ~(#) WHERE a",
		"SELECT * FROM t LEFT JOIN u x ON a JOIN u ON ~# JOIN v ON a", "SELECT * FROM t WHERE ~#", "SELECT * FROM t WHERE ~COUNT(#) GROUP BY 5", "SELECT * FROM t WHERE ~# WHERE a",
		"SELECT * FROM t GROUP BY a HAVING ~# + 1 ORDER BY 2147483648", "SELECT * FROM t HAVING ~b OR # LIMIT", "SELECT * FROM t HAVING ~# UNION ALL", "SELECT * FROM t UNION ALL SELECT ~#, # FROM t",
		"SELECT * FROM t UNION ALL SELECT * FROM t UNION ALL SELECT * FROM t WHERE ~# UNION ALL SELECT * FROM t",
	} {
		for _, n := range []int{api.MaxDepth, api.MaxDepth + 5, 200} {
			isWrongAt(t, strings.ReplaceAll(marked, "#", signs(n)), api.ErrDeep)
		}
	}
	deep := signs(api.MaxDepth)
	for _, marked := range []string{
		"SELECT ~FROM t WHERE #", "SELECT a FROM t ~AS x WHERE #", "SELECT # + ~FROM t", "SELECT SUM(#~", "SELECT (# ~AS x) FROM t", "SELECT * FROM t JOIN u ON # AND ~WHERE #", "SELECT * FROM t GROUP BY ~#",
		"SELECT * FROM t ORDER BY ~#", "SELECT * FROM t LIMIT ~#", "SELECT * FROM t WHERE (#~, b)", "SELECT * FROM t WHERE (#) OR ~HAVING #",
	} {
		isWrongAt(t, strings.ReplaceAll(marked, "#", deep), api.ErrParse)
	}
	isWrongAt(t, "SELECT a, b, c, d, e, f~, "+deep+" FROM t", api.ErrMany)
	isWrongAt(t, "SELECT * FROM t JOIN u ON a JOIN u ON a ~JOIN u ON "+deep, api.ErrMany)
}

// P9.1, P9.2: shapes of all kinds, of about as much depth and as many nodes as there may be.
func TestShapes(t *testing.T) {
	r := rand.New(rand.NewSource(90))
	extra := func() bool { return r.Intn(20) == 0 }
	right, deep := 0, 0
	for n := range 3000 {
		s := deepShape(r, api.MaxDepth-6+n%10)
		if n%2 == 0 {
			s = anyShape(r, 2+n%8)
		}
		for _, text := range []string{s.least(), loosely(r, s.tokens(1, noExtra)), loosely(r, s.tokens(1, extra))} {
			if len(text) > api.MaxSource {
				continue
			}
			if isAsDeep(t, text, s) {
				deep++
			} else {
				right++
			}
		}
	}
	if right < 2000 || deep < 500 {
		t.Error(right, deep)
	}
}

// R1: texts whose trees would be great are read as soon as others.
func TestGreatTexts(t *testing.T) {
	for _, text := range []string{
		strings.Repeat("-", api.MaxSource-1) + "a", strings.Repeat("a+", api.MaxSource/2-1) + "a", strings.Repeat("NOT ", api.MaxSource/4-1) + "a", strings.Repeat("(", 299) + "a" + strings.Repeat(")", 299),
		strings.Repeat("(a+", 149) + "a" + strings.Repeat(")", 149), strings.Repeat("SUM(", 119) + "a" + strings.Repeat(")", 119), strings.Repeat("(", api.MaxSource), strings.Repeat("COUNT(", 100), strings.Repeat("a OR ", 119) + "a",
	} {
		for range 50 {
			parse.Expr(text)
			parse.Query(text)
		}
	}
}
