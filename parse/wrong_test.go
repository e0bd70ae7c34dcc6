package parse_test

import (
	"math/rand"
	"slices"
	"strings"
	"testing"

	"bowsprit/api"
	"bowsprit/ast"
	"bowsprit/lex"
	"bowsprit/parse"
)

// parsed is where a text is wrong, and how, as a query or an expr; and whether what it says is what a call is to answer then: nothing beside an error, else what may be (8).
func parsed(rule, text string) (fits bool, at int, e api.Errno) {
	if rule == "query" {
		q, at, e := parse.Query(text)
		if e == api.OK {
			return ast.Check(q) == api.OK, at, e
		}
		return q.Selects == nil && q.Keys == nil && q.Limit == 0, at, e
	}
	x, at, e := parse.Expr(text)
	if e == api.OK {
		return ast.CheckTree(x) == api.OK, at, e
	}
	return x.Nodes == nil, at, e
}

// isAsTold holds tokens, one blank between each two, against the grammar.
func isAsTold(t *testing.T, rule string, tokens []string) {
	t.Helper()
	text := strings.Join(tokens, " ")
	fits, at, e := parsed(rule, text)
	if place, want := verdict(rule, tokens); !fits || at != place || e != want {
		t.Errorf("%s %q: %v at %v, not %v at %v (%v)", rule, text, e, at, want, place, fits)
	}
}

// texts are texts that are right, one blank between each two tokens.
func texts(t *testing.T) map[string][]string {
	t.Helper()
	exprs := []string{
		"a", "5", "'it''s'", "TRUE", "FALSE", "NULL", "COUNT ( * )", "COUNT ( a )", "SUM ( t . a )", "MIN ( - 1 )", "MAX ( a OR b )",
		"a . b", "- - a", "NOT NOT a", "( ( a ) )", "a IS NULL", "a IS NOT NULL", "a + b - c", "a * b / c", "a AND b AND c", "a OR b OR c",
		"a < b", "NOT ( a + 1 <= - b . c )", "a = 1 AND b <> 2 OR NOT c IS NULL", "( a OR b ) AND ( c > d )", "COUNT ( * ) + COUNT ( a ) >= 2147483648", "( a = b ) IS NOT NULL",
	}
	all := map[string][]string{"expr": exprs}
	for _, x := range partedQueries() {
		all["query"] = append(all["query"], spaced(t, x.text))
	}
	for _, x := range exprs {
		all["query"] = append(all["query"], "SELECT "+x+" AS x FROM t JOIN u ON "+x+" WHERE "+x+" HAVING "+x+" LIMIT 1")
	}
	all["query"] = append(all["query"],
		"SELECT DISTINCT a , COUNT ( * ) AS n FROM t x LEFT JOIN u y ON x . a = y . a JOIN v ON TRUE WHERE a < 5 GROUP BY a , x . b , c HAVING COUNT ( * ) > 1 ORDER BY n DESC , 1 , a ASC LIMIT 10",
		"SELECT * FROM t UNION ALL SELECT a , b , c , d , e , f FROM t UNION ALL SELECT DISTINCT * FROM t GROUP BY a , b , c ORDER BY 1 , 2 , 3")
	return all
}

// spaced is a text with one blank between each two tokens.
func spaced(t *testing.T, text string) string {
	t.Helper()
	l, _, e := lex.Tokens(text)
	s, _ := lex.Print(l)
	if e != api.OK {
		t.Fatal(text, e)
	}
	return s
}

// P9.1: nothing at all, and blanks alone: what is missing is missed at the text's end.
func TestNothing(t *testing.T) {
	for _, s := range []string{"", " ", "\n", " \t\r\n ", strings.Repeat(" ", api.MaxSource)} {
		isNoExpr(t, s, len(s), api.ErrParse)
		isNoQuery(t, s, len(s), api.ErrParse)
	}
	isNoExpr(t, "a + \n ", 6, api.ErrParse)
	isNoExpr(t, "(a  ", 4, api.ErrParse)
	isNoQuery(t, "SELECT * FROM\t\t", 15, api.ErrParse)
}

// P9.1: the errors of Tokens, and their places, go ahead of all else, wherever they stand.
func TestErrorsOfTokens(t *testing.T) {
	for _, ask := range []func(*testing.T, string, int, api.Errno){isNoExpr, isNoQuery} {
		ask(t, "A", 0, api.ErrLex)
		ask(t, "a b ? c", 4, api.ErrLex)
		ask(t, ") ) ) 01", 6, api.ErrLex)
		ask(t, "SELECT , , , 'a", 13, api.ErrLex)
		ask(t, "a + 9223372036854775808", 4, api.ErrLex)
		ask(t, "a, b, c, d, e, f, g, abcdefghij1234567", 21, api.ErrLex)
		ask(t, "\x00", 0, api.ErrLex)
		ask(t, strings.Repeat("- ", 100)+"a é", 202, api.ErrLex)
		ask(t, strings.Repeat("SELECT * FROM t UNION ALL ", 5)+"SELECT * FROM t WHERE a;", 153, api.ErrLex)
		ask(t, strings.Repeat("a ", 300)+"?", 0, api.ErrLong)
		ask(t, strings.Repeat("?", api.MaxSource+1), 0, api.ErrLong)
		ask(t, strings.Repeat("?", api.MaxSource), 0, api.ErrLex)
	}
}

// P9.1: texts of 600 bytes and of one more.
func TestLength(t *testing.T) {
	for _, right := range []string{"a", "SELECT * FROM t"} {
		fill := strings.Repeat(" ", api.MaxSource-len(right))
		rule := "expr"
		if len(right) > 1 {
			rule = "query"
		}
		for _, text := range []string{fill + right, right + fill} {
			if fits, at, e := parsed(rule, text); !fits || at != 0 || e != api.OK {
				t.Errorf("%q: %v %v", text, at, e)
			}
			for _, longer := range []string{text + " ", " " + text, text + ")", text + "?"} {
				if fits, at, e := parsed(rule, longer); !fits || at != 0 || e != api.ErrLong {
					t.Errorf("%q: %v %v", longer, at, e)
				}
			}
		}
	}
	isNoExpr(t, strings.Repeat(" ", api.MaxSource-1)+"+", api.MaxSource-1, api.ErrParse)
	isNoExpr(t, strings.Repeat(" ", api.MaxSource-1)+"-", api.MaxSource, api.ErrParse)
}

// P9.1: texts that are right, each cut behind each of its tokens, and one token too many at the end of each of these.
func TestCutTexts(t *testing.T) {
	t.Parallel()
	more := strings.Fields(allTokens)
	for rule, l := range texts(t) {
		tried := map[string]bool{}
		for _, text := range l {
			tokens := strings.Fields(text)
			if _, e := verdict(rule, tokens); e != api.OK {
				t.Errorf("%q is not right", text)
			}
			for k := range len(tokens) + 1 {
				cut := strings.Join(tokens[:k], " ")
				if tried[cut] {
					continue
				}
				tried[cut] = true
				isAsTold(t, rule, tokens[:k])
				for _, token := range more {
					isAsTold(t, rule, append(slices.Clone(tokens[:k]), token))
				}
			}
		}
	}
}

// P9.1, P9.2: texts that are right, with another token in the place of each, with one too many ahead of each, without each, and with two that have changed places.
func TestChangedTexts(t *testing.T) {
	t.Parallel()
	more := strings.Fields(allTokens)
	for rule, l := range texts(t) {
		for n, text := range l {
			tokens := strings.Fields(text)
			for k := range tokens {
				behind := tokens[k+1:]
				isAsTold(t, rule, slices.Concat(tokens[:k], behind))
				if k > 0 {
					isAsTold(t, rule, slices.Concat(tokens[:k-1], []string{tokens[k], tokens[k-1]}, behind))
				}
				for i, token := range more {
					if len(tokens) > 12 && (n+k+i)%5 != 0 {
						continue
					}
					isAsTold(t, rule, slices.Concat(tokens[:k], []string{token}, behind))
					isAsTold(t, rule, slices.Concat(tokens[:k], []string{token}, tokens[k:]))
				}
			}
		}
	}
}

// anyTokens are tokens that may stand there in turn, now and then with one that may not: behind that it goes on as if it had not been there.
func anyTokens(r *rand.Rand, rule string, most int) []string {
	all := map[string][]string{}
	for _, token := range strings.Fields(allTokens) {
		all[kindOf(token)] = append(all[kindOf(token)], token)
		all[""] = append(all[""], token)
	}
	one := func(kind string) string {
		return all[kind][r.Intn(len(all[kind]))]
	}
	var out []string
	for w := begin(rule); len(out) < most; {
		may := w.may()
		kind := may[r.Intn(len(may))]
		for _, often := range []string{",", "a_name", "JOIN", "UNION", ")", ""} {
			if slices.Contains(may, often) && r.Intn(4) == 0 {
				kind = often
			}
		}
		if kind == "" {
			break
		}
		w = w.next(kind)
		out = append(out, one(kind))
		if r.Intn(80) == 0 {
			out = append(out, one(""))
		}
	}
	return out
}

// P9.1, P9.2: long rows of tokens, most of them right for long.
func TestAnyTokens(t *testing.T) {
	t.Parallel()
	r := rand.New(rand.NewSource(9))
	told := map[api.Errno]int{}
	for range 3000 {
		for _, rule := range []string{"query", "expr"} {
			tokens := anyTokens(r, rule, 80)
			if len(strings.Join(tokens, " ")) > api.MaxSource || mayBeDeep(tokens) {
				continue
			}
			isAsTold(t, rule, tokens)
			_, e := verdict(rule, tokens)
			told[e]++
		}
	}
	if told[api.OK] < 500 || told[api.ErrParse] < 500 || told[api.ErrMany] < 100 {
		t.Error(told)
	}
}

// mayBeDeep tells whether an expr among tokens has so many nodes with parts that it could be too deep, of which the grammar knows nothing.
func mayBeDeep(tokens []string) bool {
	most, nodes := 0, 0
	for _, token := range tokens {
		switch {
		case strings.Contains(" OR AND NOT IS = <> < <= > >= + - * / COUNT SUM MIN MAX ", " "+token+" "):
			nodes++
			most = max(most, nodes)
		case strings.Contains(" SELECT FROM ON WHERE HAVING , ", " "+token+" "):
			nodes = 0
		}
	}
	return most >= api.MaxDepth
}
