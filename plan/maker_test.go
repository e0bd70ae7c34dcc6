package plan_test

import (
	"math/rand"
	"slices"

	"bowsprit/api"
	"bowsprit/logic"
)

// maker makes trees by chance, over catalogs by chance.
type maker struct {
	*rand.Rand
	catalog api.Catalog
}

func newMaker(seed int64) *maker {
	return &maker{Rand: rand.New(rand.NewSource(seed))}
}

// newCatalog has tables with and without Keys.
func (m *maker) newCatalog() {
	m.catalog = api.Catalog{}
	for k := range 1 + m.Intn(api.MaxTables) {
		t := tab(string(rune('t'+k)), "")
		for at := range 1 + m.Intn(api.MaxColumns) {
			t.Columns = append(t.Columns, api.Column{Name: string(rune('a' + at)), Kind: []int{kb, ki, ki, ki, kt}[m.Intn(5)]})
			if m.Intn(3) == 0 {
				t.Keys = append(t.Keys, at)
			}
		}
		m.catalog.Tables = append(m.catalog.Tables, t)
	}
}

// growing is a tree's nodes, and the kinds of its columns.
type growing struct {
	nodes []api.LNode
	kinds []int
}

// over is what stands over one, or over two; false, if it may not.
func over(n api.LNode, parts ...growing) (growing, bool) {
	var g growing
	for _, p := range parts {
		g.nodes = append(g.nodes, p.nodes...)
	}
	g.nodes = append(g.nodes, n)
	kinds, e := logic.Kinds(tree(g.nodes...))
	g.kinds = kinds
	return g, e == api.OK
}

func (m *maker) expr(kinds []int) (api.Expr, int) {
	c, d := m.Intn(len(kinds)), m.Intn(len(kinds))
	switch m.Intn(8) {
	case 0:
		return on(api.NIsNull, col(c)), kb
	case 1:
		if kinds[c] == kinds[d] {
			return eq(c, d), kb
		}
	case 2:
		if kinds[c] == ki {
			return on(api.NSub, col(c), num(1)), ki
		}
	case 3:
		if kinds[c] == ki {
			return on(api.NGt, col(c), num(1)), kb
		}
	case 4:
		k := m.Intn(4)
		return lit(valueOf[k]), k
	}
	return col(c), kinds[c]
}

func (m *maker) cond(kinds []int) api.Expr {
	for range 10 {
		if x, k := m.expr(kinds); k == kb || k == kn {
			return x
		}
	}
	return lit(yes)
}

// pairs is a condition that holds columns of two sides equal, with something besides, safe or not.
func (m *maker) pairs(a, b []int) api.Expr {
	cond := lit(yes)
	for range m.Intn(5) {
		l, r := m.Intn(len(a)), m.Intn(len(b))
		if a[l] == b[r] {
			cond = all(cond, []api.Expr{eq(l, len(a)+r), eq(len(a)+r, l)}[m.Intn(2)])
		}
	}
	if m.Intn(3) == 0 {
		cond = all(m.cond(slices.Concat(a, b)), cond)
	}
	return cond
}

func (m *maker) aggs(kinds []int) (l []api.Agg) {
	for range m.Intn(4) {
		arg, kind := m.expr(kinds)
		switch tag := 1 + m.Intn(5); {
		case tag == api.AggAll:
			l = append(l, agg(tag))
		case tag != api.AggSum || kind == ki || kind == kn:
			l = append(l, agg(tag, arg))
		}
	}
	return l
}

// one is an operator over a part.
func (m *maker) one(g growing) api.LNode {
	switch m.Intn(7) {
	case 0:
		return filter(m.cond(g.kinds))
	case 1, 2:
		n := project()
		for range 1 + m.Intn(5) {
			x, _ := m.expr(g.kinds)
			if m.Intn(4) > 0 {
				x = col(m.Intn(len(g.kinds)))
			}
			n.Items = append(n.Items, x)
		}
		return n
	case 3, 4:
		n := group(nil, m.aggs(g.kinds)...)
		for range m.Intn(4) {
			n.Keys = append(n.Keys, m.Intn(len(g.kinds)))
		}
		if len(n.Keys)+len(n.Aggs) == 0 {
			n.Aggs = []api.Agg{agg(api.AggAll)}
		}
		return n
	}
	return distinct()
}

// two are two parts under a join, or a union, if there may be one of them.
func (m *maker) two(a, b growing) (growing, bool) {
	if m.Intn(3) == 0 {
		if g, ok := over(union(), a, b); ok {
			return g, ok
		}
		cols := make([]int, len(b.kinds))
		for k := range cols {
			cols[k] = k % len(a.kinds)
		}
		other, _ := over(picked(cols...), a)
		if g, ok := over(union(), other, b); ok {
			return g, ok
		}
	}
	n := join(m.pairs(a.kinds, b.kinds))
	n.Left = m.Intn(3) == 0
	return over(n, a, b)
}

func (m *maker) grown(depth int) growing {
	if depth == 0 {
		t := m.Intn(len(m.catalog.Tables))
		var kinds []int
		for _, c := range m.catalog.Tables[t].Columns {
			kinds = append(kinds, c.Kind)
		}
		return growing{nodes(scan(t, kinds...)), kinds}
	}
	part := m.grown(depth - 1)
	if m.Intn(3) == 0 {
		if g, ok := m.two(part, m.grown(m.Intn(depth))); ok {
			return g
		}
	}
	g, ok := over(m.one(part), part)
	if !ok {
		return part
	}
	return g
}

// newTree is a tree that may be, of a catalog of its own.
func (m *maker) newTree(depth int) api.Logic {
	m.newCatalog()
	g := m.grown(1 + m.Intn(depth))
	if m.Intn(3) == 0 {
		n := sortBy(m.Intn(5) - 1)
		for range m.Intn(3) {
			n.Order = append(n.Order, api.Ord{Col: m.Intn(len(g.kinds)), Desc: m.Intn(2) == 0})
		}
		if sorted, ok := over(n, g); ok {
			g = sorted
		}
	}
	return tree(g.nodes...)
}
