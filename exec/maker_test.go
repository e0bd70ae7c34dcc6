package exec_test

import (
	"math/big"
	"math/rand"
	"slices"

	"bowsprit/api"
	"bowsprit/prop"
)

// maker makes fragments by chance, whose tables and inputs are of kinds, and rows for them.
type maker struct {
	*rand.Rand
	tables, inputs [][]int
}

func newMaker(seed int64) *maker {
	m := &maker{Rand: rand.New(rand.NewSource(seed))}
	m.newKinds()
	return m
}

// newKinds has inputs of columns as tables have them, such as there are after projections, and such as partial aggregates have.
func (m *maker) newKinds() {
	m.tables, m.inputs = nil, nil
	for range api.MaxTables {
		m.tables = append(m.tables, m.kinds(1+m.Intn(3), kb, ki, ki, kt))
	}
	for range 3 {
		m.inputs = append(m.inputs, m.kinds(1+m.Intn(4), kn, kb, ki, ki, ki, kt), slices.Concat(m.kinds(m.Intn(3), kb, ki, ki, kt), m.kinds(1+m.Intn(3), ki, ki, ks, ks, kt)))
	}
}

func (m *maker) kinds(count int, among ...int) (l []int) {
	for range count {
		l = append(l, among[m.Intn(len(among))])
	}
	return l
}

// value is one of a kind, or null; a few of them come often, the ends of numbers now and then.
func (m *maker) value(kind int) api.Value {
	if kind == kn || m.Intn(6) == 0 {
		return null
	}
	switch kind {
	case kb:
		return []api.Value{no, yes}[m.Intn(2)]
	case kt:
		return text([]string{"", "a", "b", "ab"}[m.Intn(4)])
	case ks:
		if m.Intn(12) == 0 {
			return under([]*big.Int{power(127, -1), minus(power(127, 0)), power(63, 0), power(64, 3), minus(power(126, 5))}[m.Intn(5)])
		}
		return sum(int64(m.Intn(7) - 3))
	}
	if m.Intn(10) == 0 {
		return number([]int64{most, least, most - 1, -most}[m.Intn(4)])
	}
	return number(int64(m.Intn(6) - 2))
}

// rows are as many of kinds.
func (m *maker) rows(count int, kinds []int) []api.Row {
	l := make([]api.Row, count)
	for k := range l {
		for _, kind := range kinds {
			l[k] = append(l[k], m.value(kind))
		}
	}
	return l
}

// data has few rows mostly, so many that a join of them is too much now and then, or just as many as there may be, or one more.
func (m *maker) data() data {
	count := func() int {
		if m.Intn(8) == 0 {
			return []int{14, 15, 40, 100, 199, 200, 201}[m.Intn(7)]
		}
		return m.Intn(8)
	}
	var d data
	for _, kinds := range m.tables {
		d.Tables = append(d.Tables, m.rows(count(), kinds))
	}
	for _, kinds := range m.inputs {
		d.Inputs = append(d.Inputs, m.rows(count(), kinds))
	}
	return d
}

// growing is nodes that may be, and the kinds of what they come to.
type growing struct {
	nodes []api.LNode
	kinds []int
}

// over is what stands over none, one, or two; false, if it may not.
func over(n api.LNode, parts ...growing) (growing, bool) {
	var g growing
	for _, p := range parts {
		g.nodes = append(g.nodes, p.nodes...)
	}
	g.nodes = steps(append(g.nodes, n)...)
	kinds, _, e := prop.Kinds(g.nodes)
	if e != api.OK {
		return g, false
	}
	g.kinds = kinds[len(kinds)-1]
	return g, true
}

func (m *maker) expr(kinds []int) (api.Expr, int) {
	c, d := m.Intn(len(kinds)), m.Intn(len(kinds))
	switch m.Intn(12) {
	case 0:
		return on([]int{api.NIsNull, api.NNotNull}[m.Intn(2)], col(c)), kb
	case 1, 2:
		if kinds[c] == kinds[d] {
			return on([]int{api.NEq, api.NLt, api.NGe}[m.Intn(3)], col(c), col(d)), kb
		}
	case 3:
		if kinds[c] == ki {
			return on([]int{api.NSub, api.NAdd, api.NMul}[m.Intn(3)], col(c), num(1+int64(m.Intn(2)))), ki
		}
	case 4, 5:
		if kinds[c] == ki {
			return on(api.NGt, col(c), num(int64(m.Intn(3)-1))), kb
		}
	case 6:
		if kinds[c] == ki {
			return bad(c, int64(m.Intn(6)-2)), ki
		}
	case 7:
		k := m.Intn(4)
		return lit(valueOf[k]), k
	}
	return col(c), kinds[c]
}

func (m *maker) cond(kinds []int) api.Expr {
	for range 10 {
		if x, k := m.expr(kinds); k == kb || k == kn {
			return x
		}
	}
	return lit(yes)
}

func (m *maker) aggs(kinds []int) (l []api.Agg) {
	for range m.Intn(4) {
		arg, kind := m.expr(kinds)
		switch tag := 1 + m.Intn(5); {
		case tag == api.AggAll:
			l = append(l, agg(tag))
		case tag != api.AggSum || kind == ki || kind == kn:
			l = append(l, agg(tag, arg))
		}
	}
	return l
}

// groups is a group, be it whole or partial.
func (m *maker) groups(op int, kinds []int) api.LNode {
	n := api.LNode{Op: op, B: -1, Aggs: m.aggs(kinds)}
	for range m.Intn(4) {
		n.Keys = append(n.Keys, m.Intn(len(kinds)))
	}
	if len(n.Keys)+len(n.Aggs) == 0 {
		n.Aggs = []api.Agg{agg(api.AggAll)}
	}
	return n
}

// ended is an LFinal over columns of kinds; it may be one that may not stand there.
func (m *maker) ended(kinds []int) api.LNode {
	keys := m.Intn(min(4, len(kinds)))
	var tags []int
	for _, kind := range kinds[keys:] {
		tags = append(tags, map[int][]int{
			kn: {api.AggMin, api.AggMax}, kb: {api.AggMin, api.AggMax}, kt: {api.AggMin, api.AggMax}, ks: {api.AggSum, api.AggSum}, ki: {api.AggAll + m.Intn(2), api.AggMin + m.Intn(2)},
		}[kind][m.Intn(2)])
	}
	return final(keys, tags...)
}

func (m *maker) sort(width int) api.LNode {
	n := sortBy(m.Intn(7) - 1)
	for range m.Intn(4) {
		n.Order = append(n.Order, api.Ord{Col: m.Intn(width), Desc: m.Intn(2) == 0})
	}
	return n
}

// leaf is a scan, or, if there may be some, an input, an LFinal over one.
func (m *maker) leaf(inputs bool) growing {
	if inputs && m.Intn(2) == 0 {
		k := m.Intn(len(m.inputs))
		in, _ := over(input(k, m.inputs[k]...))
		if m.Intn(2) == 0 || slices.Contains(in.kinds, ks) {
			if g, ok := over(m.ended(in.kinds), in); ok {
				return g
			}
		}
		if !slices.Contains(in.kinds, ks) {
			return in
		}
	}
	k := m.Intn(len(m.tables))
	g, _ := over(scan(k, m.tables[k]...))
	return g
}

// one is an operator over a part.
func (m *maker) one(g growing) api.LNode {
	switch m.Intn(6) {
	case 0, 1:
		return filter(m.cond(g.kinds))
	case 2:
		n := project()
		for range 1 + m.Intn(5) {
			x, _ := m.expr(g.kinds)
			n.Items = append(n.Items, x)
		}
		return n
	case 3, 4:
		return m.groups(api.LGroup, g.kinds)
	}
	return distinct()
}

// two are two parts under a join, or a union; false, if they may not stand there.
func (m *maker) two(a, b growing) (growing, bool) {
	if m.Intn(3) > 0 {
		cond := m.cond(slices.Concat(a.kinds, b.kinds))
		return over([]api.LNode{join(cond), leftJoin(cond)}[m.Intn(2)], a, b)
	}
	if g, ok := over(union(), a, b); ok {
		return g, ok
	}
	n := project()
	for k := range a.kinds {
		n.Items = append(n.Items, col(k%len(b.kinds)))
	}
	other, _ := over(n, b)
	return over(union(), other, other)
}

func (m *maker) grown(depth int, inputs bool) growing {
	if depth == 0 {
		return m.leaf(inputs)
	}
	part := m.grown(depth-1, inputs)
	if m.Intn(3) == 0 {
		if g, ok := m.two(part, m.grown(m.Intn(depth), inputs)); ok && len(g.kinds) < 9 {
			return g
		}
	}
	g, ok := over(m.one(part), part)
	if !ok {
		return part
	}
	return g
}

// tree is nodes of Ops that a tree has, a sort being the root now and then.
func (m *maker) tree(depth int, inputs bool) growing {
	g := m.grown(m.Intn(depth), inputs)
	if m.Intn(4) == 0 {
		if sorted, ok := over(m.sort(len(g.kinds)), g); ok {
			return sorted
		}
	}
	return g
}

// frag is nodes of whatever Ops.
func (m *maker) frag(depth int) growing {
	g := m.tree(depth, true)
	switch m.Intn(6) {
	case 0:
		if parts, ok := over(m.groups(api.LPartial, g.kinds), g); ok {
			return parts
		}
	case 1:
		k := m.Intn(len(m.inputs))
		in, _ := over(input(k, m.inputs[k]...))
		return in
	}
	return g
}

// changed is nodes with something else at a place: as often as not they may not be any more.
func (m *maker) changed(l []api.LNode) []api.LNode {
	l = copyOf(l)
	n := &l[m.Intn(len(l))]
	switch m.Intn(8) {
	case 0:
		n.Op = m.Intn(13)
	case 1:
		n.A += m.Intn(3) - 1
	case 2:
		n.Table = m.Intn(9) - 1
	case 3:
		n.Kinds = append(n.Kinds, m.Intn(5))
	case 4:
		n.Keys = append(n.Keys, m.Intn(4))
	case 5:
		n.Cond = m.cond([]int{ki, ki})
	case 6:
		n.Limit += m.Intn(3) - 1
	case 7:
		n.Aggs = append(n.Aggs, agg(1+m.Intn(5)))
	}
	return l
}

// spoiled is data of which something is missing, or another thing.
func (m *maker) spoiled(d data) data {
	d = copyOf(d)
	lists := &d.Tables
	if m.Intn(2) == 0 {
		lists = &d.Inputs
	}
	l := *lists
	if m.Intn(5) == 0 {
		*lists = l[:m.Intn(len(l))]
		return d
	}
	l[m.Intn(len(l))] = m.spoiledRows(l[m.Intn(len(l))])
	return d
}

// spoiledRows are rows one of which is of another width, or has another value at a place.
func (m *maker) spoiledRows(rows []api.Row) []api.Row {
	if len(rows) == 0 {
		return []api.Row{{}}
	}
	place := m.Intn(len(rows))
	r := rows[place]
	if len(r) == 0 || m.Intn(3) == 0 {
		return with(rows, place, append(slices.Clone(r), m.value(ki)))
	}
	wrong := append(noValues(), valueOf...)
	return with(rows, place, with(r, m.Intn(len(r)), wrong[m.Intn(len(wrong))]))
}
