package prop_test

import (
	"math"
	"math/rand"
	"slices"

	"bowsprit/api"
)

// maker makes plans that may be, by chance, as they grow; and databases.
type maker struct {
	*rand.Rand
	catalog api.Catalog
	plan    api.Plan
}

func newMaker(seed int64) *maker {
	return &maker{Rand: rand.New(rand.NewSource(seed))}
}

// newCatalog has tables with and without Keys.
func (m *maker) newCatalog() {
	m.catalog = api.Catalog{}
	for k := range 1 + m.Intn(api.MaxTables) {
		t := tab(string(rune('t'+k)), "")
		for at := range 1 + m.Intn(api.MaxColumns) {
			t.Columns = append(t.Columns, api.Column{Name: string(rune('a' + at)), Kind: []int{kb, ki, ki, ki, kt}[m.Intn(5)]})
			if m.Intn(3) == 0 {
				t.Keys = append(t.Keys, at)
			}
		}
		m.catalog.Tables = append(m.catalog.Tables, t)
	}
}

func (m *maker) value(kind int) api.Value {
	switch {
	case m.Intn(6) == 0 || kind == kn:
		return null
	case kind == kb:
		return api.Value{Kind: kb, N: int64(m.Intn(2))}
	case kind == ki && m.Intn(20) == 0:
		return number(math.MaxInt64 - int64(m.Intn(2)))
	case kind == ki:
		return number(int64(m.Intn(4)))
	}
	return text([]string{"", "a", "b"}[m.Intn(3)])
}

func (m *maker) base() api.Base {
	var b api.Base
	for _, t := range m.catalog.Tables {
		var rows []api.Row
		for range m.Intn(8) {
			var r api.Row
			for _, c := range t.Columns {
				r = append(r, m.value(c.Kind))
			}
			rows = append(rows, r)
		}
		b.Tables = append(b.Tables, rows)
	}
	return b
}

// growing is what is planned of a plan's part: the nodes of a fragment that is under way, where it runs, the kinds of its columns.
type growing struct {
	nodes []api.LNode
	at    int
	kinds []int
}

// over is what stands over one, or over two.
func (m *maker) over(n api.LNode, parts ...growing) growing {
	u := growing{at: parts[0].at}
	for _, p := range parts {
		u.nodes = append(u.nodes, p.nodes...)
	}
	u.nodes = steps(append(u.nodes, n)...)
	u.kinds = lastOf(must(kindsByRule(u.nodes)))
	return u
}

// send has a fragment done, and goes on with what reads it.
func (m *maker) send(u growing, way int) growing {
	f := api.Frag{Nodes: u.nodes, At: u.at, Way: way}
	var plain []int
	for k, kind := range u.kinds {
		if kind != ks {
			plain = append(plain, k)
		}
	}
	if way == api.WayShuffle && len(plain) == 0 {
		f.Way, way = api.WayCast, api.WayCast
	}
	if way == api.WayShuffle {
		for range 1 + m.Intn(3) {
			f.Cols = append(f.Cols, plain[m.Intn(len(plain))])
		}
	}
	m.plan.Frags = append(m.plan.Frags, f)
	at := map[bool]int{true: api.AtOne, false: api.AtAll}[way == api.WayGather]
	return growing{nodes: steps(input(len(m.plan.Frags)-1, u.kinds...)), at: at, kinds: u.kinds}
}

func (m *maker) expr(kinds []int) (api.Expr, int) {
	c, d := m.Intn(len(kinds)), m.Intn(len(kinds))
	switch m.Intn(8) {
	case 0:
		return on(api.NIsNull, col(c)), kb
	case 1:
		if kinds[c] == kinds[d] {
			return eq(c, d), kb
		}
	case 2:
		if kinds[c] == ki {
			return on(api.NSub, col(c), num(1)), ki
		}
	case 3:
		if kinds[c] == ki {
			return on(api.NGt, col(c), num(1)), kb
		}
	case 4:
		k := m.Intn(4)
		return lit(valueOf[k]), k
	}
	return col(c), kinds[c]
}

func (m *maker) cond(kinds []int) api.Expr {
	for range 10 {
		if x, k := m.expr(kinds); k == kb || k == kn {
			return x
		}
	}
	return lit(yes)
}

// pairs is a condition that holds columns of two sides equal, with something besides, safe or not.
func (m *maker) pairs(a, b []int) api.Expr {
	cond := lit(yes)
	for range 1 + m.Intn(3) {
		l, r := m.Intn(len(a)), m.Intn(len(b))
		if a[l] == b[r] {
			cond = both(cond, []api.Expr{eq(l, len(a)+r), eq(len(a)+r, l)}[m.Intn(2)])
		}
	}
	if m.Intn(4) == 0 {
		cond = both(cond, m.cond(slices.Concat(a, b)))
	}
	return cond
}

func (m *maker) aggs(kinds []int) (l []api.Agg) {
	for range m.Intn(4) {
		arg, kind := m.expr(kinds)
		switch tag := 1 + m.Intn(5); {
		case tag == api.AggAll:
			l = append(l, agg(tag))
		case tag != api.AggSum || kind == ki || kind == kn:
			l = append(l, agg(tag, arg))
		}
	}
	return l
}

func (m *maker) places(most, width int) (l []int) {
	for range m.Intn(most + 1) {
		l = append(l, m.Intn(width))
	}
	return l
}

// groups is a group, be it whole or partial.
func (m *maker) groups(op int, kinds []int) api.LNode {
	n := api.LNode{Op: op, Keys: m.places(3, len(kinds)), Aggs: m.aggs(kinds)}
	if len(n.Keys)+len(n.Aggs) == 0 {
		n.Aggs = []api.Agg{agg(api.AggAll)}
	}
	return n
}

// ended is what stands over an input of what a partial aggregate came to: its end, or, now and then, one with other keys and tags.
func (m *maker) ended(n api.LNode, u growing) growing {
	keys := len(n.Keys)
	var tags []int
	for _, g := range n.Aggs {
		tags = append(tags, g.Tag)
	}
	if m.Intn(5) == 0 {
		keys, tags = m.Intn(4), nil
		for range max(len(u.kinds)-keys, 0) {
			tags = append(tags, 1+m.Intn(5))
		}
	}
	end := final(keys, tags...)
	if _, _, ok := kindsByRule(steps(u.nodes[0], end)); ok {
		return m.over(end, u)
	}
	return m.ended(n, u)
}

// one is what stands over a part.
func (m *maker) one(u growing) growing {
	switch m.Intn(9) {
	case 0:
		return m.over(filter(m.cond(u.kinds)), u)
	case 1:
		n := project()
		for range 1 + m.Intn(4) {
			x, _ := m.expr(u.kinds)
			if m.Intn(3) > 0 {
				x = col(m.Intn(len(u.kinds)))
			}
			n.Items = append(n.Items, x)
		}
		return m.over(n, u)
	case 2:
		return m.over(distinct(), u)
	case 3:
		return m.over(m.groups(api.LGroup, u.kinds), u)
	case 4:
		n := m.groups(api.LPartial, u.kinds)
		in := m.send(m.over(n, u), []int{api.WayShuffle, api.WayGather, api.WayShuffle, api.WayCast}[m.Intn(4)])
		return m.ended(n, in)
	case 5:
		n := sortBy(m.Intn(5) - 1)
		for range m.Intn(3) {
			n.Order = append(n.Order, api.Ord{Col: m.Intn(len(u.kinds)), Desc: m.Intn(2) == 0})
		}
		in := m.send(m.over(n, u), []int{api.WayGather, api.WayGather, api.WayGather, api.WayShuffle}[m.Intn(4)])
		if m.Intn(3) > 0 { // as the end of a plan has it; a sort is a root
			in = m.send(m.over(n, in), []int{api.WayGather, api.WayShuffle}[m.Intn(2)])
		}
		return in
	}
	return m.send(u, []int{api.WayShuffle, api.WayShuffle, api.WayCast, api.WayGather}[m.Intn(4)])
}

// two is what stands over two parts; they come to run alike.
func (m *maker) two(a, b growing) growing {
	if a.at != b.at {
		if a.at == api.AtAll {
			a = m.send(a, api.WayGather)
		} else {
			b = m.send(b, api.WayGather)
		}
	}
	if m.Intn(3) == 0 {
		if _, _, ok := kindsByRule(steps(slices.Concat(a.nodes, b.nodes, []api.LNode{union()})...)); ok {
			return m.over(union(), a, b)
		}
		cols := make([]int, len(b.kinds))
		for k := range cols {
			cols[k] = k % len(a.kinds)
		}
		n := union()
		other := m.over(picked(cols...), a)
		if _, _, ok := kindsByRule(steps(slices.Concat(other.nodes, b.nodes, []api.LNode{n})...)); ok {
			return m.over(n, other, b)
		}
	}
	if len(a.kinds)+len(b.kinds) > 10 {
		a, b = m.over(picked(0), a), m.over(picked(0), b)
	}
	if a.at == api.AtAll && m.Intn(3) == 0 {
		b = m.send(b, api.WayCast)
	}
	n := join(m.pairs(a.kinds, b.kinds))
	n.Left = m.Intn(3) == 0
	return m.over(n, a, b)
}

func (m *maker) grown(depth int) growing {
	if depth == 0 {
		t := m.Intn(len(m.catalog.Tables))
		var kinds []int
		for _, c := range m.catalog.Tables[t].Columns {
			kinds = append(kinds, c.Kind)
		}
		return growing{steps(scan(t, kinds...)), api.AtAll, kinds}
	}
	u := m.grown(depth - 1)
	if depth > 1 && m.Intn(4) == 0 {
		return m.two(u, m.grown(m.Intn(depth)))
	}
	return m.one(u)
}

// newPlan is a plan that may be, of a catalog of its own.
func (m *maker) newPlan(depth int) api.Plan {
	for {
		m.newCatalog()
		m.plan = api.Plan{}
		u := m.grown(1 + m.Intn(depth))
		if u.at == api.AtAll {
			u = m.send(u, api.WayGather)
		}
		m.plan.Frags = append(m.plan.Frags, api.Frag{Nodes: u.nodes, At: api.AtOne, Way: api.WayRoot})
		if len(m.plan.Frags) <= api.MaxFrags {
			return copyOf(m.plan)
		}
	}
}

// changed is a plan with something else at a place: as often as not it may not be any more.
func (m *maker) changed(p api.Plan) api.Plan {
	p = copyOf(p)
	frag := m.Intn(len(p.Frags))
	f := &p.Frags[frag]
	n := &f.Nodes[m.Intn(len(f.Nodes))]
	near := func(x *int) { *x += m.Intn(3) - 1 }
	lists := []*[]int{&n.Kinds, &n.Keys, &f.Cols}
	switch m.Intn(16) {
	case 0:
		n.Op = m.Intn(13)
	case 1:
		near(&n.A)
	case 2:
		near(&n.B)
	case 3:
		n.Table = m.Intn(len(p.Frags) + 1)
	case 4, 5:
		l := lists[m.Intn(3)]
		*l = append(*l, m.Intn(5))
	case 6, 7:
		if l := *lists[m.Intn(3)]; len(l) > 0 {
			l[m.Intn(len(l))] = m.Intn(5)
		}
	case 8:
		n.Cond = m.cond([]int{ki, ki})
	case 9:
		n.Aggs = append(n.Aggs, agg(1+m.Intn(5)))
	case 10:
		n.Items = append(n.Items, col(0))
	case 11:
		near(&n.Limit)
	case 12:
		near(&f.At)
	case 13:
		if near(&f.Way); m.Intn(2) == 0 {
			f.Way, f.Cols = 2+m.Intn(2), nil
		}
	case 14:
		k := m.Intn(len(p.Frags))
		p.Frags[frag], p.Frags[k] = p.Frags[k], p.Frags[frag]
	case 15:
		p.Frags = slices.Delete(p.Frags, frag, frag+1)
	}
	return p
}
