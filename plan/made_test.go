package plan_test

import (
	"math"
	"slices"
	"strings"

	"bowsprit/api"
)

// Values, expressions, nodes, trees, fragments and catalogs are made without the program.
var (
	null = api.Value{}
	yes  = api.Value{Kind: api.VBool, N: 1}
)

func number(n int64) api.Value {
	return api.Value{Kind: api.VInt, N: n}
}

func text(s string) api.Value {
	return api.Value{Kind: api.VText, S: s}
}

// valueOf is a value of each kind that an expression may have, the kinds' numbers being its places.
var valueOf = []api.Value{null, yes, number(5), text("a")}

// The kinds by short names.
const (
	kn = api.VNull
	kb = api.VBool
	ki = api.VInt
	kt = api.VText
	ks = api.VSum
)

func exprOf(l ...api.ENode) api.Expr {
	return api.Expr{Nodes: l}
}

func lit(v api.Value) api.Expr {
	return exprOf(api.ENode{Tag: api.NLit, L: -1, R: -1, Value: v})
}

func num(n int64) api.Expr {
	return lit(number(n))
}

func col(n int) api.Expr {
	return exprOf(api.ENode{Tag: api.ECol, L: -1, R: -1, Col: n})
}

// on is the expression of a tag over one part, or two.
func on(tag int, parts ...api.Expr) api.Expr {
	root := api.ENode{Tag: tag, L: -1, R: -1}
	var l []api.ENode
	for k, p := range parts {
		by := len(l)
		for _, n := range p.Nodes {
			if n.L >= 0 {
				n.L += by
			}
			if n.R >= 0 {
				n.R += by
			}
			l = append(l, n)
		}
		if k == 0 {
			root.L = len(l) - 1
		} else {
			root.R = len(l) - 1
		}
	}
	return exprOf(append(l, root)...)
}

// eq holds two columns equal, and all is several conditions at once.
func eq(a, b int) api.Expr {
	return on(api.NEq, col(a), col(b))
}

func all(first api.Expr, others ...api.Expr) api.Expr {
	for _, x := range others {
		first = on(api.NAnd, first, x)
	}
	return first
}

// eqs holds columns equal by twos.
func eqs(cols ...int) api.Expr {
	var l []api.Expr
	for k := 0; k < len(cols); k += 2 {
		l = append(l, eq(cols[k], cols[k+1]))
	}
	return all(l[0], l[1:]...)
}

// unsafe is a condition that may fault, over a first column of VInt.
func unsafe() api.Expr {
	return on(api.NEq, on(api.NDiv, num(1), col(0)), num(1))
}

func agg(tag int, arg ...api.Expr) api.Agg {
	a := api.Agg{Tag: tag}
	for _, x := range arg {
		a.Arg = x
	}
	return a
}

// eachAgg is an aggregate of each Tag, over a first column of VInt.
func eachAgg() []api.Agg {
	return []api.Agg{agg(api.AggAll), agg(api.AggCount, col(1)), agg(api.AggSum, col(0)), agg(api.AggMin, col(1)), agg(api.AggMax, on(api.NAdd, col(0), num(1)))}
}

func scan(table int, kinds ...int) api.LNode {
	return api.LNode{Op: api.LScan, Table: table, Kinds: kinds}
}

func input(frag int, kinds ...int) api.LNode {
	return api.LNode{Op: api.LInput, Table: frag, Kinds: kinds}
}

func join(cond api.Expr) api.LNode {
	return api.LNode{Op: api.LJoin, Cond: cond}
}

func leftJoin(cond api.Expr) api.LNode {
	return api.LNode{Op: api.LJoin, Left: true, Cond: cond}
}

func filter(cond api.Expr) api.LNode {
	return api.LNode{Op: api.LFilter, Cond: cond}
}

func group(keys []int, aggs ...api.Agg) api.LNode {
	return api.LNode{Op: api.LGroup, Keys: keys, Aggs: aggs}
}

func partial(keys []int, aggs ...api.Agg) api.LNode {
	return api.LNode{Op: api.LPartial, Keys: keys, Aggs: aggs}
}

// final has as many keys as said, and aggregates of tags.
func final(keys int, tags ...int) api.LNode {
	n := api.LNode{Op: api.LFinal}
	for k := range keys {
		n.Keys = append(n.Keys, k)
	}
	for _, tag := range tags {
		n.Aggs = append(n.Aggs, agg(tag))
	}
	return n
}

func project(items ...api.Expr) api.LNode {
	return api.LNode{Op: api.LProject, Items: items}
}

// picked is a projection on columns.
func picked(cols ...int) api.LNode {
	var n api.LNode
	for _, c := range cols {
		n = project(append(n.Items, col(c))...)
	}
	return n
}

func distinct() api.LNode {
	return api.LNode{Op: api.LDistinct}
}

func union() api.LNode {
	return api.LNode{Op: api.LUnion}
}

func sortBy(limit int, order ...api.Ord) api.LNode {
	return api.LNode{Op: api.LSort, Order: order, Limit: limit}
}

// partsByRule says how many parts each operator has.
var partsByRule = map[int]int{
	api.LScan: 0, api.LJoin: 2, api.LFilter: 1, api.LGroup: 1, api.LProject: 1, api.LDistinct: 1, api.LUnion: 2, api.LSort: 1,
	api.LInput: 0, api.LPartial: 1, api.LFinal: 1,
}

// steps are nodes in the order in which they stand, with the places that a tree's order has for their parts; -1, where there are too few.
func steps(l ...api.LNode) []api.LNode {
	l = slices.Clone(l)
	var free []int
	pop := func() int {
		if len(free) == 0 {
			return -1
		}
		place := free[len(free)-1]
		free = free[:len(free)-1]
		return place
	}
	for k, n := range l {
		n.A, n.B = -1, -1
		parts := partsByRule[n.Op]
		if parts == 2 {
			n.B = pop()
		}
		if parts > 0 {
			n.A = pop()
		}
		l[k] = n
		free = append(free, k)
	}
	return l
}

func nodes(l ...api.LNode) []api.LNode {
	return l
}

// tree is of nodes as steps has them.
func tree(l ...api.LNode) api.Logic {
	return api.Logic{Nodes: steps(l...)}
}

// Fragments AtAll, by how their rows go on; single is one AtOne whose rows are gathered, root the last one.
func shuffled(cols []int, l ...api.LNode) api.Frag {
	return api.Frag{Nodes: steps(l...), At: api.AtAll, Way: api.WayShuffle, Cols: cols}
}

func cast(l ...api.LNode) api.Frag {
	return api.Frag{Nodes: steps(l...), At: api.AtAll, Way: api.WayCast}
}

func gathered(l ...api.LNode) api.Frag {
	return api.Frag{Nodes: steps(l...), At: api.AtAll, Way: api.WayGather}
}

func single(l ...api.LNode) api.Frag {
	return api.Frag{Nodes: steps(l...), At: api.AtOne, Way: api.WayGather}
}

func root(l ...api.LNode) api.Frag {
	return api.Frag{Nodes: steps(l...), At: api.AtOne, Way: api.WayRoot}
}

func planOf(l ...api.Frag) api.Plan {
	return api.Plan{Frags: l}
}

// tab is a table whose columns are laid as a line of a catalog says them.
func tab(name, columns string, keys ...int) api.Table {
	kinds := map[string]int{"bool": api.VBool, "int": api.VInt, "text": api.VText}
	t := api.Table{Name: name, Keys: keys}
	f := strings.Fields(columns)
	for k := 0; k < len(f); k += 2 {
		t.Columns = append(t.Columns, api.Column{Name: f[k], Kind: kinds[f[k+1]]})
	}
	return t
}

func cat(tables ...api.Table) api.Catalog {
	return api.Catalog{Tables: tables}
}

// chapters is the chapter's own catalog, and two tables besides: t by a, u anyhow, v by b and d, w anyhow.
func chapters() api.Catalog {
	return cat(tab("t", "a int b int", 0), tab("u", "c int"), tab("v", "a int b int c int d int", 1, 3), tab("w", "a int b int c int d int"))
}

// The scans of these tables.
func scanT() api.LNode {
	return scan(0, ki, ki)
}

func scanU() api.LNode {
	return scan(1, ki)
}

func scanV() api.LNode {
	return scan(2, ki, ki, ki, ki)
}

func scanW() api.LNode {
	return scan(3, ki, ki, ki, ki)
}

// noCatalogs are catalogs that may not be.
func noCatalogs() []api.Catalog {
	ordinary := tab("t", "a int b int", 0)
	return []api.Catalog{
		cat(tab("", "a int")), cat(tab("T", "a int")), cat(ordinary, ordinary), cat(tab("t", "")), cat(tab("t", "a int b int c int d int e int")),
		cat(tab("t", "a sum")), cat(tab("t", "a int b int", 2)), cat(tab("t", "a int b int", -1)), cat(tab("t", "a int b int", 1, 0)), cat(tab("t", "a int b int", 1, 1)),
		cat(ordinary, tab("u", "a int"), tab("v", "a int"), tab("w", "a int"), tab("x", "a int")),
	}
}

// nowhere are numbers that are no place of a list of that many.
func nowhere(count int) []int {
	return []int{count, count + 1, -1, -2, math.MaxInt, math.MinInt, 1 << 32, 1<<32 + 1, -1 << 32}
}

// with is a list with another thing at a place of it.
func with[T any](l []T, at int, x T) []T {
	l = slices.Clone(l)
	l[at] = x
	return l
}

// numbers are those from one to another.
func numbers(from, to int) (l []int) {
	for n := from; n <= to; n++ {
		l = append(l, n)
	}
	return l
}
