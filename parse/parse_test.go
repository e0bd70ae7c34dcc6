package parse_test

import (
	"slices"
	"strings"
	"testing"

	"bowsprit/api"
	"bowsprit/ast"
	"bowsprit/parse"
)

// isTree holds what a text says against a shape.
func isTree(t *testing.T, text string, want *shape) {
	t.Helper()
	x, at, e := parse.Expr(text)
	if e != api.OK || at != 0 || !slices.Equal(x.Nodes, want.tree().Nodes) {
		t.Errorf("%q: %v %v %v, not %v", text, x, at, e, want.tree())
	}
}

// isExpr holds what a text says against how it is written whole, with all parentheses (8).
func isExpr(t *testing.T, text, want string) {
	t.Helper()
	x, at, e := parse.Expr(text)
	if s, _ := ast.PrintTree(x); e != api.OK || at != 0 || s != want {
		t.Errorf("%q: %q %v %v, not %q", text, s, at, e, want)
	}
}

func isNoExpr(t *testing.T, text string, place int, want api.Errno) {
	t.Helper()
	x, at, e := parse.Expr(text)
	if e != want || at != place || x.Nodes != nil {
		t.Errorf("%q: %v %v %v, not %v at %v", text, x, at, e, want, place)
	}
}

// isQuery holds what a text says against a query, field by field.
func isQuery(t *testing.T, text string, want api.Query) {
	t.Helper()
	q, at, e := parse.Query(text)
	if e != api.OK || at != 0 || !ast.Same(q, want) {
		t.Errorf("%q: %v %v %v, not %v", text, q, at, e, want)
	}
}

func isNoQuery(t *testing.T, text string, place int, want api.Errno) {
	t.Helper()
	q, at, e := parse.Query(text)
	if e != want || at != place || q.Selects != nil || q.Keys != nil || q.Limit != 0 {
		t.Errorf("%q: %v %v %v, not %v at %v", text, q, at, e, want, place)
	}
}

// isWrongAt finds the place of a mark (~) in a text, which is wrong there without it.
func isWrongAt(t *testing.T, marked string, want api.Errno) {
	t.Helper()
	isNoQuery(t, strings.Replace(marked, "~", "", 1), strings.Index(marked, "~"), want)
}

// isWrongExprAt does so of an expr, and of a query in which the expr stands.
func isWrongExprAt(t *testing.T, marked string, want api.Errno) {
	t.Helper()
	isNoExpr(t, strings.Replace(marked, "~", "", 1), strings.Index(marked, "~"), want)
	if !strings.HasSuffix(marked, "~") {
		isWrongAt(t, "SELECT * FROM t WHERE "+marked, want)
	}
}

// P9.1: the chapter's examples.
func TestExamples(t *testing.T) {
	isExpr(t, "1 + a * -2", "1 + (a * (- 2))")
	isExpr(t, "NOT a = 1 AND b", "(NOT (a = 1)) AND b")
	isNoExpr(t, "a = b = c", 6, api.ErrParse)
	isNoExpr(t, "a b", 2, api.ErrParse)
	isNoExpr(t, "", 0, api.ErrParse)
	isNoQuery(t, "SELECT * FROM t LIMIT", 21, api.ErrParse)
	q, _, e := parse.Query("select * from t order by 1 desc")
	if s, _ := ast.Print(q); e != api.OK || s != "SELECT * FROM t ORDER BY 1 DESC" {
		t.Error(q, s, e)
	}
}

// P9.1: each leaf, alone, in parentheses, and as a part of each tag.
func TestLeaves(t *testing.T) {
	for _, s := range leaves {
		x := word(s)
		isTree(t, s, x)
		isTree(t, x.least(), x)
		isTree(t, "( "+s+" )", x)
		isTree(t, "(("+s+"))", x)
		for tag, f := range forms {
			if len(f.levels) == 1 {
				isTree(t, strings.Replace(f.text, "#", s, 1), over(tag, x))
				continue
			}
			for _, other := range leaves {
				isTree(t, strings.Replace(strings.Replace(f.text, "#", s, 1), "#", other, 1), over(tag, x, word(other)))
			}
		}
	}
}

// P9.1: what is written between quotes is a text, whatever it looks like.
func TestTextsAreNoTokens(t *testing.T) {
	isExpr(t, "a = 'AND'", "a = 'AND'")
	isExpr(t, "'(' + ')'", "'(' + ')'")
	isNoExpr(t, "a '+' b", 2, api.ErrParse)
	isNoExpr(t, "'NOT' a", 6, api.ErrParse)
	isNoExpr(t, "COUNT('*'", 9, api.ErrParse)
	isExpr(t, "COUNT('*')", "COUNT('*')")
	isNoExpr(t, "a 'IS' NULL", 2, api.ErrParse)
	isNoExpr(t, "a IS 'NULL'", 5, api.ErrParse)
	isNoQuery(t, "'SELECT' * FROM t", 0, api.ErrParse)
	isNoQuery(t, "SELECT '*' , a FROM 't'", 20, api.ErrParse)
	isNoQuery(t, "SELECT a 'AS' b FROM t", 9, api.ErrParse)
	isNoQuery(t, "SELECT a ',' b FROM t", 9, api.ErrParse)
	isNoQuery(t, "SELECT a FROM t ORDER BY 'a'", 25, api.ErrParse)
	isNoQuery(t, "SELECT a FROM t LIMIT '1'", 22, api.ErrParse)
	isNoQuery(t, "SELECT a FROM t ORDER BY a 'DESC'", 27, api.ErrParse)
}

// P9.1: several of one level in a row are joined from the left on.
func TestFromTheLeftOn(t *testing.T) {
	isExpr(t, "a OR b OR c", "(a OR b) OR c")
	isExpr(t, "a AND b AND c AND d", "((a AND b) AND c) AND d")
	isExpr(t, "a + b + c", "(a + b) + c")
	isExpr(t, "a - b - c", "(a - b) - c")
	isExpr(t, "a - b + c - d", "((a - b) + c) - d")
	isExpr(t, "a / b / c", "(a / b) / c")
	isExpr(t, "a / b * c / d", "((a / b) * c) / d")
	isExpr(t, "a - (b - c)", "a - (b - c)")
	isExpr(t, "a / (b / c) / d", "(a / (b / c)) / d")
	isExpr(t, "a OR (b OR c)", "a OR (b OR c)")
}

// P9.1: each level within the next one.
func TestLevels(t *testing.T) {
	isExpr(t, "a OR b AND c OR d", "(a OR (b AND c)) OR d")
	isExpr(t, "a AND b OR c AND d", "(a AND b) OR (c AND d)")
	isExpr(t, "NOT a OR NOT b AND NOT c", "(NOT a) OR ((NOT b) AND (NOT c))")
	isExpr(t, "NOT a < b", "NOT (a < b)")
	isExpr(t, "NOT a IS NULL", "NOT (a IS NULL)")
	isExpr(t, "(NOT a) IS NULL", "(NOT a) IS NULL")
	isExpr(t, "(NOT a) = b", "(NOT a) = b")
	isExpr(t, "a + 1 = b - 2", "(a + 1) = (b - 2)")
	isExpr(t, "a + 1 IS NULL", "(a + 1) IS NULL")
	isExpr(t, "a + b * c IS NOT NULL AND d", "((a + (b * c)) IS NOT NULL) AND d")
	isExpr(t, "a + b * c - d / e", "(a + (b * c)) - (d / e)")
	isExpr(t, "(a + b) * (c - d)", "(a + b) * (c - d)")
	isExpr(t, "-a * -b + -c", "((- a) * (- b)) + (- c)")
	isExpr(t, "-(a * b)", "- (a * b)")
	isExpr(t, "- a . b / c", "(- a.b) / c")
	isExpr(t, "(a = b) = (c = d)", "(a = b) = (c = d)")
	isExpr(t, "(a IS NULL) IS NULL", "(a IS NULL) IS NULL")
	isExpr(t, "(a = b) IS NOT NULL", "(a = b) IS NOT NULL")
	isExpr(t, "a = (b IS NULL)", "a = (b IS NULL)")
	isExpr(t, "a = (NOT b)", "a = (NOT b)")
	isExpr(t, "- (NOT a)", "- (NOT a)")
	for _, sign := range strings.Fields("= <> < <= > >=") {
		isExpr(t, "a+b"+sign+"-c AND NOT d", "((a + b) "+sign+" (- c)) AND (NOT d)")
	}
}

// P9.1: NOT and - any often.
func TestRepeated(t *testing.T) {
	isExpr(t, "NOT NOT a", "NOT (NOT a)")
	isExpr(t, "NOT NOT NOT a = b", "NOT (NOT (NOT (a = b)))")
	isExpr(t, "- - a", "- (- a)")
	isExpr(t, "---1", "- (- (- 1))")
	isExpr(t, "a - - - b", "a - (- (- b))")
	isExpr(t, "a--b", "a - (- b)")
	isExpr(t, "a * - - b", "a * (- (- b))")
}

// P9.1: calls: of an expr, and COUNT of a star.
func TestCalls(t *testing.T) {
	for _, word := range []string{"COUNT", "SUM", "MIN", "MAX"} {
		isExpr(t, word+"(a)", word+"(a)")
		isExpr(t, word+"(t.a + 1)", word+"(t.a + 1)")
		isExpr(t, word+"(a OR b AND NOT c)", word+"(a OR (b AND (NOT c)))")
		isExpr(t, word+"((a))", word+"(a)")
		isExpr(t, word+"("+word+"(a) IS NULL)", word+"("+word+"(a) IS NULL)")
		isExpr(t, "- "+word+"(a) * "+word+"(COUNT(*))", "(- "+word+"(a)) * "+word+"(COUNT(*))")
		isWrongExprAt(t, word+"~", api.ErrParse)
		isWrongExprAt(t, word+"(~", api.ErrParse)
		isWrongExprAt(t, word+"(~)", api.ErrParse)
		isWrongExprAt(t, word+" ~a", api.ErrParse)
		isWrongExprAt(t, word+"(a~", api.ErrParse)
		isWrongExprAt(t, word+"(a~, b)", api.ErrParse)
		isWrongExprAt(t, word+"(a * ~)", api.ErrParse)
		isWrongExprAt(t, word+"((~*))", api.ErrParse)
		isWrongExprAt(t, word+"(~DISTINCT a)", api.ErrParse)
	}
	isExpr(t, "COUNT(*)", "COUNT(*)")
	isExpr(t, "count ( * )", "COUNT(*)")
	isExpr(t, "COUNT(*) > 5", "COUNT(*) > 5")
	isExpr(t, "COUNT(*) * COUNT(*)", "COUNT(*) * COUNT(*)")
	isWrongExprAt(t, "COUNT(*~", api.ErrParse)
	isWrongExprAt(t, "COUNT(* ~+ 1)", api.ErrParse)
	isWrongExprAt(t, "COUNT(* ~a)", api.ErrParse)
	isWrongExprAt(t, "COUNT(*)~(a)", api.ErrParse)
	for _, word := range []string{"SUM", "MIN", "MAX"} {
		isWrongExprAt(t, word+"(~*)", api.ErrParse)
	}
}
