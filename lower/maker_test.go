package lower_test

import (
	"go/ast"
	"go/parser"
	"go/token"
	"math/rand"
	"path/filepath"
	"slices"
	"strconv"
	"strings"
	"testing"

	"bowsprit/api"
)

// catalogs are tables of most names that stand in texts, with columns of all kinds.
var catalogs = []string{
	few,
	"table t a int b int c int d int\ntable u a int b int c bool d text by a\ntable v a int b text e int\ntable w w int a bool\n",
	"table t a int b bool c bool d text by a c\ntable s a int\n",
	"table t a text b text c text d bool\ntable u c text x text\n",
	"table x a int b int c bool d int by a d\ntable t a bool b bool c bool\n",
	"table a a int b bool\ntable b a int b int c int\ntable c c int d text\ntable t t int a int b int\n",
	"table zz zz int\ntable t d bool x int\ntable u d int\n",
}

// textsOf are all texts that stand written in the tests of a package, long ones and parts of such; none, if its tests are not there.
func textsOf(t *testing.T, layer string) []string {
	t.Helper()
	files, err := filepath.Glob(filepath.Join("..", layer, "*_test.go"))
	if err != nil {
		t.Fatal(err)
	}
	var texts []string
	for _, name := range files {
		f, err := parser.ParseFile(token.NewFileSet(), name, nil, 0)
		if err != nil {
			t.Fatal(err)
		}
		ast.Inspect(f, func(n ast.Node) bool {
			if l, ok := n.(*ast.BasicLit); ok && l.Kind == token.STRING {
				if s, err := strconv.Unquote(l.Value); err == nil {
					texts = append(texts, s)
				}
			}
			return true
		})
	}
	slices.Sort(texts)
	return slices.Compact(texts)
}

// maker writes queries by chance over the few tables; one in so many of their parts is wrong.
type maker struct {
	*rand.Rand
	wrong   int
	columns [][2]string // how each one may be named, and its kind's letter
	groups  bool
}

func (m *maker) oneIn(n int) bool {
	return m.Intn(n) == 0
}

func (m *maker) one(l ...string) string {
	return l[m.Intn(len(l))]
}

const kindLetters = "nbit"

// leaf is a column of a kind, or a literal; where groups are an aggregate.
func (m *maker) leaf(kind string) string {
	if m.oneIn(m.wrong) {
		return m.one("zz", "a", "SUM(1)", "'x'", "t.zz")
	}
	if m.groups && m.oneIn(2) {
		m.groups = false
		defer func() { m.groups = true }()
		if kind == "i" && m.oneIn(2) {
			return m.one("COUNT(*)", "COUNT("+m.tree(m.one("n", "b", "i", "t"), 1)+")", "SUM("+m.tree("i", 1)+")")
		}
		return m.one("MIN", "MAX") + "(" + m.tree(kind, 1) + ")"
	}
	var l []string
	for _, c := range m.columns {
		if c[1] == kind && !m.groups {
			l = append(l, c[0])
		}
	}
	if len(l) > 0 && !m.oneIn(4) {
		return m.one(l...)
	}
	switch kind {
	case "b":
		return m.one("TRUE", "FALSE", "NULL")
	case "i":
		return strconv.Itoa(m.Intn(4))
	case "t":
		return m.one("'x'", "''", "'y'")
	}
	return "NULL"
}

// tree is an expression of a kind.
func (m *maker) tree(kind string, depth int) string {
	if depth == 0 || m.oneIn(3) {
		return m.leaf(kind)
	}
	part := func(kind string) string { return "(" + m.tree(kind, depth-1) + ")" }
	other := m.one("b", "i", "t")
	switch kind {
	case "i":
		return part(kind) + m.one("+", "-", "*", "/") + part(kind)
	case "b":
		return m.one(part(other)+m.one("=", "<", "<>", ">=")+part(other), part(kind)+m.one(" AND ", " OR ")+part(kind), "NOT "+part(kind), part(other)+" IS NOT NULL")
	}
	return m.leaf(kind)
}

// source adds a table's columns, called as it is.
func (m *maker) source(called string) string {
	table := m.Intn(4)
	for _, c := range strings.Fields([]string{"a:i b:t", "a:i", "c:b d:i e:t b:b", "w:i x:i y:i z:i"}[table]) {
		name, kind, _ := strings.Cut(c, ":")
		m.columns = append(m.columns, [2]string{called + "." + name, kind})
	}
	return []string{"t ", "u ", "v ", "w "}[table] + called
}

func (m *maker) selected(kinds []string) string {
	m.columns, m.groups = nil, false
	s := " FROM " + m.source("p")
	for k := range m.Intn(api.MaxJoins + 1) {
		s += m.one(" LEFT", "") + " JOIN " + m.source([]string{"q", "r"}[k]) + " ON " + m.tree("b", 2)
	}
	if m.oneIn(2) {
		s += " WHERE " + m.tree("b", 2)
	}
	if m.groups = m.oneIn(2); m.groups && m.oneIn(2) {
		s += " GROUP BY " + m.columns[m.Intn(len(m.columns))][0]
	}
	if m.groups && m.oneIn(2) {
		s += " HAVING " + m.tree("b", 2)
	}
	var items []string
	for _, kind := range kinds {
		items = append(items, m.tree(kind, 2)+m.one("", "", " AS n", " AS k"))
	}
	return m.one("SELECT ", "SELECT DISTINCT ") + strings.Join(items, ", ") + s
}

// query is one of chance; now and then it is too long for a text.
func (m *maker) query() string {
	kinds := make([]string, 1+m.Intn(3))
	for k := range kinds {
		kinds[k] = string(kindLetters[m.Intn(4)])
	}
	var selects []string
	for range 1 + m.Intn(api.MaxSelects) {
		selects = append(selects, m.selected(kinds))
		if m.oneIn(m.wrong) {
			kinds = append(kinds, "i")
		}
	}
	s := strings.Join(selects, " UNION ALL ")
	if m.oneIn(2) {
		s += " ORDER BY " + strconv.Itoa(1+m.Intn(len(kinds))) + m.one("", " DESC", ", 1")
	}
	if m.oneIn(2) {
		s += " LIMIT " + strconv.Itoa(m.Intn(5))
	}
	return s
}
