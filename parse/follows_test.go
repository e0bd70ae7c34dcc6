package parse_test

import (
	"math/rand"
	"slices"
	"strconv"
	"strings"
	"testing"

	"bowsprit/api"
	"bowsprit/ast"
	"bowsprit/parse"
)

// maker makes queries by chance, and how each is written.
type maker struct {
	*rand.Rand
	tokens []string
}

// add lays tokens that are parted by blanks.
func (m *maker) add(tokens string) {
	m.tokens = append(m.tokens, strings.Fields(tokens)...)
}

func (m *maker) maybe() bool {
	return m.Intn(2) == 0
}

// name lays a name.
func (m *maker) name() string {
	s := []string{"a", "b", "t", "u1", "x_y", "orders", "asc_"}[m.Intn(7)]
	m.add(s)
	return s
}

// expr lays an expr of few nodes.
func (m *maker) expr() api.Tree {
	s := anyShape(m.Rand, 1+m.Intn(3))
	m.tokens = append(m.tokens, s.tokens(1, func() bool { return m.Intn(10) == 0 })...)
	return s.tree()
}

// several lays from one part to most, a comma between each two.
func (m *maker) several(most int, lay func()) {
	for k := range 1 + m.Intn(most) {
		if k > 0 {
			m.add(",")
		}
		lay()
	}
}

func (m *maker) source() api.Source {
	s := api.Source{Table: m.name()}
	if m.maybe() {
		s.As = m.name()
	}
	return s
}

func (m *maker) items(s *api.Select) {
	if s.Star = m.Intn(4) == 0; s.Star {
		m.add("*")
		return
	}
	m.several(api.MaxItems, func() {
		i := api.Item{Tree: m.expr()}
		if m.maybe() {
			m.add("AS")
			i.As = m.name()
		}
		s.Items = append(s.Items, i)
	})
}

func (m *maker) joins(s *api.Select) {
	for range m.Intn(api.MaxJoins + 1) {
		var j api.Join
		if j.Left = m.maybe(); j.Left {
			m.add("LEFT")
		}
		m.add("JOIN")
		j.Source = m.source()
		m.add("ON")
		j.On = m.expr()
		s.Joins = append(s.Joins, j)
	}
}

func (m *maker) group(s *api.Select) {
	m.add("GROUP BY")
	m.several(api.MaxNames, func() {
		n := api.Name{Name: m.name()}
		if m.maybe() {
			m.add(".")
			n = api.Name{Table: n.Name, Name: m.name()}
		}
		s.Group = append(s.Group, n)
	})
}

func (m *maker) selected() api.Select {
	var s api.Select
	m.add("SELECT")
	if s.Distinct = m.maybe(); s.Distinct {
		m.add("DISTINCT")
	}
	m.items(&s)
	m.add("FROM")
	s.From = m.source()
	m.joins(&s)
	if m.maybe() {
		m.add("WHERE")
		s.Where = m.expr()
	}
	if m.maybe() {
		m.group(&s)
	}
	if m.maybe() {
		m.add("HAVING")
		s.Having = m.expr()
	}
	return s
}

func (m *maker) number() int {
	n := []int{0, 1, 2, 10, api.MaxNumber}[m.Intn(5)]
	m.add(strconv.Itoa(n))
	return n
}

func (m *maker) key() api.Key {
	var k api.Key
	if m.maybe() {
		k.Name = m.name()
	} else {
		k.Number = m.number()
	}
	order := []string{"", "ASC", "DESC"}[m.Intn(3)]
	m.add(order)
	k.Desc = order == "DESC"
	return k
}

func (m *maker) query() api.Query {
	m.tokens = nil
	q := api.Query{Limit: -1}
	for k := range 1 + m.Intn(api.MaxSelects) {
		if k > 0 {
			m.add("UNION ALL")
		}
		q.Selects = append(q.Selects, m.selected())
	}
	if m.maybe() {
		m.add("ORDER BY")
		m.several(api.MaxKeys, func() { q.Keys = append(q.Keys, m.key()) })
	}
	if m.maybe() {
		m.add("LIMIT")
		q.Limit = m.number()
	}
	return q
}

// P9.1, P9.2: queries of all kinds, with the parentheses they need and some more, with blanks and capitals of all kinds, and as ast.Print lays them.
func TestQueries(t *testing.T) {
	m := &maker{Rand: rand.New(rand.NewSource(92))}
	long := 0
	for range 1500 {
		q := m.query()
		s, e := ast.Print(q)
		if e != api.OK {
			t.Fatal(q, e)
		}
		for _, text := range []string{s, packed(m.tokens), strings.Join(m.tokens, " "), loosely(m.Rand, m.tokens)} {
			if len(text) <= api.MaxSource {
				isQuery(t, text, q)
				continue
			}
			long++
			isNoQuery(t, text, 0, api.ErrLong)
		}
	}
	if long > 1500 {
		t.Error(long)
	}
}

// P9.2: what ast.PrintTree lays of a tree says it.
func TestPrintedTrees(t *testing.T) {
	r := rand.New(rand.NewSource(93))
	asked := 0
	for range 2000 {
		x := anyShape(r, 2+r.Intn(7)).tree()
		s, e := ast.PrintTree(x)
		if e != api.OK || len(s) > api.MaxSource {
			continue
		}
		asked++
		y, at, e := parse.Expr(s)
		if e != api.OK || at != 0 || !ast.SameTree(x, y) {
			t.Errorf("%q: %v %v %v, not %v", s, y, at, e, x)
		}
	}
	if asked < 1000 {
		t.Error(asked)
	}
}

// P9.2: parentheses around an expr, wherever one stands in another one or in a query.
func TestParenthesesAround(t *testing.T) {
	x := over(api.NOr, over(api.NNot, over(api.NEq, word("a"), word("t . b"))), over(api.NIsNull, over(api.NMul, over(api.NNeg, word("1")), over(api.NMax, word("c")))))
	isTree(t, "NOT a = t.b OR -1 * MAX(c) IS NULL", x)
	isTree(t, "(NOT a = t.b OR -1 * MAX(c) IS NULL)", x)
	isTree(t, "NOT (a = t.b) OR (-1) * MAX(c) IS NULL", x)
	isTree(t, "(NOT (a) = (t.b)) OR (((-(1)) * (MAX((c)))) IS NULL)", x)
	for _, marked := range []string{"t.~(b)", "(t)~.b", "COUNT((~*))", "MAX(c)~((d))", "(~)", "(a)~(b)", "a ~(IS NULL)", "a IS ~(NULL)", "a ~(=) b", "a IS NOT ~(NULL)", "(NOT~) a", "(a +~) b"} {
		isWrongExprAt(t, marked, api.ErrParse)
	}
	text := "SELECT (a), ((COUNT(*))) AS n FROM t JOIN u ON (a = b) WHERE ((a)) GROUP BY a HAVING (COUNT(*) > 1)"
	bare := "SELECT a, COUNT(*) AS n FROM t JOIN u ON a = b WHERE a GROUP BY a HAVING COUNT(*) > 1"
	q, _, e := parse.Query(text)
	p, _, f := parse.Query(bare)
	if e != api.OK || f != api.OK || !ast.Same(p, q) {
		t.Error(q, e, p, f)
	}
}

// P9.2: a text that is wrong at a token is wrong there, whatever tokens stand behind it.
func TestWhateverStandsBehind(t *testing.T) {
	r := rand.New(rand.NewSource(94))
	all := strings.Fields(allTokens)
	asked := 0
	for range 3000 {
		rule := []string{"query", "expr"}[r.Intn(2)]
		tokens := anyTokens(r, rule, 40)
		text := strings.Join(tokens, " ")
		_, at, e := parsed(rule, text)
		if at == len(text) || e == api.OK || e == api.ErrLong || e == api.ErrDeep {
			continue
		}
		wrong := strings.Fields(text[at:])[0]
		for range 10 {
			var behind []string
			for range r.Intn(8) {
				behind = append(behind, all[r.Intn(len(all))])
			}
			longer := strings.Join(append([]string{text[:at] + wrong}, behind...), " ")
			if len(longer) > api.MaxSource {
				continue
			}
			asked++
			if fits, place, f := parsed(rule, longer); !fits || place != at || f != e {
				t.Errorf("%q: %v at %v, not %v at %v", longer, f, place, e, at)
			}
		}
	}
	if asked < 2000 {
		t.Error(asked)
	}
}

// R3, R5: each answer is new memory, the same one each time.
func TestNewMemory(t *testing.T) {
	text := "SELECT a + 1 AS x, b FROM t JOIN u ON a = b LEFT JOIN v ON b WHERE NOT a GROUP BY a, t.b HAVING COUNT(*) > 1 UNION ALL SELECT a, b FROM t ORDER BY a, 2 DESC LIMIT 5"
	want, _ := ast.Print(first(t, text))
	for range 3 {
		q := first(t, text)
		for _, s := range q.Selects {
			for _, i := range s.Items {
				spoil(i.Tree.Nodes)
			}
			for _, j := range s.Joins {
				spoil(j.On.Nodes)
			}
			spoil(s.Where.Nodes)
			spoil(s.Having.Nodes)
			spoil(s.Items)
			spoil(s.Joins)
			spoil(s.Group)
		}
		spoil(q.Selects)
		spoil(q.Keys)
		if got, _ := ast.Print(first(t, text)); got != want {
			t.Error(got)
		}
	}
}

// R3: no two lists of one answer share any memory.
func TestListsApart(t *testing.T) {
	text := "SELECT a, a, a FROM t JOIN u ON a JOIN u ON a WHERE a HAVING a UNION ALL SELECT a FROM t WHERE a"
	q := first(t, text)
	lists := func(q api.Query) [][]api.Node {
		var out [][]api.Node
		for _, s := range q.Selects {
			for _, i := range s.Items {
				out = append(out, i.Tree.Nodes)
			}
			for _, j := range s.Joins {
				out = append(out, j.On.Nodes)
			}
			out = append(out, s.Where.Nodes, s.Having.Nodes)
		}
		return out
	}
	all := lists(q)
	for k := range all {
		whole := slices.Clone(all)
		for i := range whole {
			whole[i] = slices.Clone(whole[i])
		}
		spoil(all[k])
		for i := range all {
			if i != k && !slices.Equal(all[i], whole[i]) {
				t.Error(k, i)
			}
		}
	}
}

// first is what a text says that is right.
func first(t *testing.T, text string) api.Query {
	t.Helper()
	q, at, e := parse.Query(text)
	if e != api.OK {
		t.Fatal(text, at, e)
	}
	return q
}

// spoil takes all of a list away, and of the room behind its end.
func spoil[T any](l []T) {
	clear(l[:cap(l)])
}
