package lower_test

import (
	"slices"
	"strings"
	"testing"

	"bowsprit/api"
	"bowsprit/lower"
)

// fails holds the error of a text, its place, and that nothing is beside it.
func fails(t *testing.T, c api.Catalog, text string, at int, want api.Errno) {
	t.Helper()
	got, place, e := lower.Query(c, text)
	if e != want || place != at || !same(got, api.Asked{}) {
		t.Errorf("%q: %v at %v, not %v at %v (%v)", text, e, place, want, at, got)
	}
}

// says holds the tree of a text, and what its columns are called.
func says(t *testing.T, c api.Catalog, text string, want api.Logic, names ...string) {
	t.Helper()
	got, at, e := lower.Query(c, text)
	if at != 0 || !slices.Equal(got.Names, names) {
		t.Errorf("%q: at %v: %q, not %q", text, at, got.Names, names)
	}
	isTree(t, want)(got.Logic, e)
}

// P14.3: texts of all that a select may have, and what their columns are called.
func TestTexts(t *testing.T) {
	c := tables(t, few)
	says(t, c, "SELECT * FROM v", tree(sortBy(-1), tree(project(col(0), col(1), col(2), col(3)), scanV())), "c", "d", "e", "b")
	says(t, c, "SELECT a AS n, a, 1, b AS a FROM t", tree(sortBy(-1), tree(project(col(0), col(0), num(1), col(1)), scanT())), "n", "a", "", "a")
	says(t, c, "select distinct w.x from w where x is null", tree(sortBy(-1), tree(distinct(), tree(project(col(1)), tree(filter(on(api.NIsNull, col(1))), scanW())))), "x")
	says(t, c, "SELECT b, COUNT(*) AS n, SUM(a) FROM t GROUP BY b HAVING SUM(a) > 2 ORDER BY n DESC, 1 LIMIT 0",
		tree(sortBy(0, api.Ord{Col: 1, Desc: true}, api.Ord{}), tree(project(col(0), col(1), col(2)), tree(filter(on(api.NGt, col(2), num(2))), tree(group([]int{1}, agg(api.AggAll), agg(api.AggSum, col(0))), scanT())))), "b", "n", "")
	joined := tree(join(false, lit(yes)), tree(join(true, on(api.NEq, col(0), col(2))), scanU(), scanV()), scanT())
	says(t, c, "SELECT u.a FROM u LEFT JOIN v ON u.a = d JOIN t ON TRUE", tree(sortBy(-1), tree(project(col(0)), joined)), "a")
	says(t, c, "SELECT NULL AS n FROM u UNION ALL SELECT DISTINCT b FROM t UNION ALL SELECT 'x' AS m FROM u ORDER BY n LIMIT 2147483647",
		tree(sortBy(api.MaxNumber, api.Ord{}), tree(union(), tree(union(), tree(project(lit(null)), scanU()), tree(distinct(), tree(project(col(1)), scanT()))), tree(project(lit(text("x"))), scanU()))), "n")
	says(t, c, "SELECT 1 FROM u GROUP BY a", tree(sortBy(-1), tree(project(num(1)), tree(group([]int{0}), scanU()))), "")
	says(t, c, "SELECT 1 FROM u HAVING MIN(a) = 1 AND COUNT(*) = 1", tree(sortBy(-1), tree(project(num(1)), tree(filter(on(api.NAnd, on(api.NEq, col(0), num(1)), on(api.NEq, col(1), num(1)))), tree(group(nil, agg(api.AggMin, col(0)), agg(api.AggAll)), scanU())))), "")
}

// P14.3: the errors of a text, of the grammar, each at its place; they go ahead of what its names name.
func TestErrorsOfParse(t *testing.T) {
	c := tables(t, few)
	fails(t, c, "", 0, api.ErrParse)
	fails(t, c, "SELECT a FROM t LIMIT", 21, api.ErrParse)
	fails(t, c, "SELECT zz FROM zz LIMIT", 23, api.ErrParse)
	fails(t, c, "SELECT a FROM t WHERE ?", 22, api.ErrLex)
	fails(t, c, "SELECT a FROM FROM t WHERE 'x", 27, api.ErrLex)
	fails(t, c, "SELECT a FROM t t t", 18, api.ErrParse)
	fails(t, c, "SELECT a, a, a, a, a, a, a FROM t", 23, api.ErrMany)
	fails(t, c, "SELECT zz FROM t JOIN t ON 1 JOIN t ON 1 JOIN t ON 1", 41, api.ErrMany)
	fails(t, c, "SELECT "+strings.Repeat("NOT ", 30)+"TRUE FROM zz", 7, api.ErrDeep)
	fails(t, c, "SELECT a FROM t LIMIT 2147483648", 22, api.ErrParse)
	long := "SELECT a FROM t" + strings.Repeat(" ", api.MaxSource-15)
	says(t, c, long, tree(sortBy(-1), tree(project(col(0)), scanT())), "a")
	fails(t, c, long+" ", 0, api.ErrLong)
	fails(t, c, strings.Repeat("?", api.MaxSource+1), 0, api.ErrLong)
	fails(t, c, strings.Repeat(" ", api.MaxSource-1)+"?", api.MaxSource-1, api.ErrLex)
	fails(t, c, "SELECT a FROM t\x00", 15, api.ErrLex)
}

// P14.3: the errors of what names name, each at its place.
func TestErrorsOfBind(t *testing.T) {
	c := tables(t, few)
	fails(t, c, "SELECT a FROM zz", 0, api.ErrTables)
	fails(t, c, "SELECT a FROM t JOIN t ON TRUE", 1, api.ErrAlias)
	fails(t, c, "SELECT 1 FROM t JOIN u ON t.a", 1, api.ErrTruth)
	fails(t, c, "SELECT a FROM t WHERE SUM(a) = 1", 2, api.ErrAgg)
	fails(t, c, "SELECT 1 FROM t GROUP BY zz", 3, api.ErrName)
	fails(t, c, "SELECT a FROM t JOIN u ON t.a = u.a", 4, api.ErrTwice)
	fails(t, c, "SELECT * FROM t GROUP BY b", 4, api.ErrStar)
	fails(t, c, "SELECT a + b FROM t", 4, api.ErrKind)
	fails(t, c, "SELECT b, COUNT(*) FROM t GROUP BY b HAVING a > 1", 5, api.ErrGroup)
	fails(t, c, "SELECT a FROM t UNION ALL SELECT b FROM t", 16, api.ErrUnion)
	fails(t, c, "SELECT a FROM t UNION ALL SELECT a FROM u UNION ALL SELECT a, a FROM u", 26, api.ErrUnion)
	fails(t, c, "SELECT a FROM t UNION ALL SELECT zz FROM t", 14, api.ErrName)
	fails(t, c, "SELECT a FROM t ORDER BY 2", 90, api.ErrName)
	fails(t, c, "SELECT SUM(1)+SUM(2)+SUM(3)+SUM(4)+SUM(5)+SUM(6)+SUM(7)+SUM(8)+SUM(9)+SUM(10)+SUM(11)+SUM(12)+SUM(13) FROM t", 4, api.ErrWide)
	fails(t, api.Catalog{}, "SELECT a FROM t", 0, api.ErrTables)
	fails(t, api.Catalog{}, "SELECT a FROM", 13, api.ErrParse)
}

// asked is what a query comes to that has something in each of its fields.
func asked() api.Asked {
	n := api.LNode{
		Op: api.LJoin, A: 0, B: 1, Table: 2, Kinds: []int{api.VInt, api.VText}, Left: true, Cond: on(api.NEq, col(0), num(1)), Keys: []int{0, 1},
		Aggs: []api.Agg{agg(api.AggAll), agg(api.AggMin, col(0))}, Items: []api.Expr{num(5), col(1)}, Order: []api.Ord{{Col: 1, Desc: true}, {Col: 0}}, Limit: 7,
	}
	return api.Asked{Logic: api.Logic{Nodes: []api.LNode{{}, n}}, Names: []string{"a", ""}}
}

// P14.3: both the same, and not, in each field alone; of trees that may not be, too.
func TestSame(t *testing.T) {
	changes := []func(*api.Asked){
		func(x *api.Asked) { x.Names[0] = "b" },
		func(x *api.Asked) { x.Names[1] = "a" },
		func(x *api.Asked) { x.Names[1] = " " },
		func(x *api.Asked) { x.Names = x.Names[:1] },
		func(x *api.Asked) { x.Names = append(x.Names, "") },
		func(x *api.Asked) { slices.Reverse(x.Names) },
		func(x *api.Asked) { x.Names = nil },
		func(x *api.Asked) { x.Logic.Nodes = x.Logic.Nodes[:1] },
		func(x *api.Asked) { x.Logic.Nodes = append(x.Logic.Nodes, api.LNode{}) },
		func(x *api.Asked) { slices.Reverse(x.Logic.Nodes) },
		func(x *api.Asked) { x.Logic = api.Logic{} },
		func(x *api.Asked) { x.Logic.Nodes[0].B = -1 },
	}
	for _, change := range []func(*api.LNode){
		func(n *api.LNode) { n.Op++ },
		func(n *api.LNode) { n.A++ },
		func(n *api.LNode) { n.B++ },
		func(n *api.LNode) { n.Table++ },
		func(n *api.LNode) { n.Kinds[1]++ },
		func(n *api.LNode) { n.Kinds = n.Kinds[:1] },
		func(n *api.LNode) { n.Left = false },
		func(n *api.LNode) { n.Cond.Nodes[1].Value.N++ },
		func(n *api.LNode) { n.Cond = api.Expr{} },
		func(n *api.LNode) { n.Keys[0]++ },
		func(n *api.LNode) { n.Keys = nil },
		func(n *api.LNode) { n.Aggs[1].Tag++ },
		func(n *api.LNode) { n.Aggs[1].Arg.Nodes[0].Col++ },
		func(n *api.LNode) { n.Items[1].Nodes[0].Col++ },
		func(n *api.LNode) { n.Items = n.Items[:1] },
		func(n *api.LNode) { n.Order[0].Desc = false },
		func(n *api.LNode) { n.Order[1].Col++ },
		func(n *api.LNode) { n.Limit++ },
	} {
		changes = append(changes, func(x *api.Asked) { change(&x.Logic.Nodes[1]) })
	}
	if !lower.Same(asked(), asked()) || !lower.Same(api.Asked{}, api.Asked{}) || !lower.Same(api.Asked{}, api.Asked{Logic: api.Logic{Nodes: []api.LNode{}}, Names: []string{}}) {
		t.Error("not the same")
	}
	for k, change := range changes {
		x := asked()
		change(&x)
		if lower.Same(x, asked()) || lower.Same(asked(), x) {
			t.Error("the same, but for change", k)
		}
		if !lower.Same(x, copyOf(x)) {
			t.Error(x, "is not itself")
		}
	}
	empty := api.LNode{Kinds: []int{}, Cond: api.Expr{Nodes: []api.ENode{}}, Keys: []int{}, Aggs: []api.Agg{}, Items: []api.Expr{}, Order: []api.Ord{}}
	if !lower.Same(api.Asked{Logic: api.Logic{Nodes: []api.LNode{empty}}}, api.Asked{Logic: api.Logic{Nodes: []api.LNode{{}}}, Names: []string{}}) {
		t.Error("nil and empty lists are one")
	}
}
