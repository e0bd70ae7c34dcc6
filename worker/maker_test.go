package worker_test

import (
	"math"
	"math/rand"
	"slices"

	"bowsprit/api"
	"bowsprit/prop"
	"bowsprit/task"
)

// maker makes trees, plans that may be, databases and layouts by chance, over catalogs by chance.
type maker struct {
	*rand.Rand
	catalog api.Catalog
	frags   []api.Frag // of a plan that grows
	sends   bool       // whether fragments may end on the way; if not, a tree grows
	bold    bool       // whether much of it faults, or comes to many rows
}

func newMaker(seed int64) *maker {
	return &maker{Rand: rand.New(rand.NewSource(seed))}
}

// newCatalog has tables with and without Keys.
func (m *maker) newCatalog() {
	m.catalog, m.bold = api.Catalog{}, m.Intn(2) == 0
	for k := range 1 + m.Intn(api.MaxTables) {
		t := tab(string(rune('t'+k)), "")
		for at := range 1 + m.Intn(api.MaxColumns) {
			t.Columns = append(t.Columns, api.Column{Name: string(rune('a' + at)), Kind: []int{kb, ki, ki, ki, kt}[m.Intn(5)]})
			if m.Intn(3) == 0 {
				t.Keys = append(t.Keys, at)
			}
		}
		m.catalog.Tables = append(m.catalog.Tables, t)
	}
}

// value is one of a kind, or null; a few of them come often, the ends of numbers now and then.
func (m *maker) value(kind int) api.Value {
	switch {
	case m.Intn(6) == 0:
		return null
	case kind == kb:
		return []api.Value{no, yes}[m.Intn(2)]
	case kind == kt:
		return text([]string{"", "a", "b", "ab"}[m.Intn(4)])
	case m.Intn(25) == 0:
		return number([]int64{math.MaxInt64, math.MinInt64, math.MaxInt64 - 1}[m.Intn(3)])
	}
	return number(int64(m.Intn(6) - 1))
}

// base is a database: of few rows mostly, of as many as there may be now and then, of none now and then.
func (m *maker) base() api.Base {
	most := []int{0, 3, 4, 5, 6, 8, api.MaxTable}[m.Intn(7)]
	if m.bold {
		most = max(7, most)
	}
	var b api.Base
	for _, t := range m.catalog.Tables {
		var rows []api.Row
		for range most - m.Intn(most/2+1) {
			var r api.Row
			for _, c := range t.Columns {
				r = append(r, m.value(c.Kind))
			}
			rows = append(rows, r)
		}
		b.Tables = append(b.Tables, rows)
	}
	return b
}

// laid lays a database over so many nodes: rows that may lie anyhow are spread over some nodes, or lie at one of them.
func (m *maker) laid(nodes int, b api.Base) api.Layout {
	spread := []int{1 + m.Intn(nodes)}
	for m.Intn(5) > 0 {
		spread = append(spread, 1+m.Intn(nodes))
	}
	return laid(m.catalog, nodes, spread, b.Tables...)
}

// growing is the nodes of a fragment that is under way, where it runs, and the kinds of its columns.
type growing struct {
	nodes []api.LNode
	at    int
	kinds []int
}

// overParts is what stands over one, or over two; false, if it may not.
func overParts(n api.LNode, parts ...growing) (growing, bool) {
	g := growing{at: parts[0].at}
	for _, p := range parts {
		g.nodes = append(g.nodes, p.nodes...)
	}
	g.nodes = steps(append(g.nodes, n)...)
	kinds, _, e := prop.Kinds(g.nodes)
	if e != api.OK {
		return g, false
	}
	g.kinds = kinds[len(kinds)-1]
	return g, true
}

// send has a fragment done, and goes on with what reads it.
func (m *maker) send(g growing, way int) growing {
	f := api.Frag{Nodes: g.nodes, At: g.at, Way: way}
	var plain []int
	for k, kind := range g.kinds {
		if kind != ks {
			plain = append(plain, k)
		}
	}
	if way == api.WayShuffle && len(plain) == 0 {
		f.Way, way = api.WayCast, api.WayCast
	}
	if way == api.WayShuffle {
		for range 1 + m.Intn(3) {
			f.Cols = append(f.Cols, plain[m.Intn(len(plain))])
		}
	}
	m.frags = append(m.frags, f)
	at := map[bool]int{true: api.AtOne, false: api.AtAll}[way == api.WayGather]
	return growing{nodes: steps(input(len(m.frags)-1, g.kinds...)), at: at, kinds: g.kinds}
}

func (m *maker) expr(kinds []int) (api.Expr, int) {
	c, d := m.Intn(len(kinds)), m.Intn(len(kinds))
	switch m.Intn(12) {
	case 0:
		return on([]int{api.NIsNull, api.NNotNull}[m.Intn(2)], col(c)), kb
	case 1, 2:
		if kinds[c] == kinds[d] {
			return on([]int{api.NEq, api.NLt, api.NGe}[m.Intn(3)], col(c), col(d)), kb
		}
	case 3:
		if kinds[c] == ki {
			return on([]int{api.NSub, api.NAdd}[m.Intn(2)], col(c), num(1)), ki
		}
	case 4, 5:
		if kinds[c] == ki {
			return on(api.NGt, col(c), num(int64(m.Intn(3)-1))), kb
		}
	case 6:
		if kinds[c] == ki {
			return bad(c, int64(m.Intn(9)-1)), ki
		}
	case 7:
		k := m.Intn(4)
		return lit(valueOf[k]), k
	}
	return col(c), kinds[c]
}

func (m *maker) cond(kinds []int) api.Expr {
	for range 10 {
		if x, k := m.expr(kinds); k == kb || k == kn {
			return x
		}
	}
	return lit(yes)
}

// pairs is a condition that holds columns of two sides equal, with something besides, safe or not.
func (m *maker) pairs(a, b []int) api.Expr {
	cond := lit(yes)
	for range m.Intn(4) {
		l, r := m.Intn(len(a)), m.Intn(len(b))
		if a[l] == b[r] {
			cond = on(api.NAnd, cond, []api.Expr{eq(l, len(a)+r), eq(len(a)+r, l)}[m.Intn(2)])
		}
	}
	if m.Intn(3) == 0 {
		cond = on(api.NAnd, m.cond(slices.Concat(a, b)), cond)
	}
	return cond
}

func (m *maker) aggs(kinds []int) (l []api.Agg) {
	for range m.Intn(4) {
		arg, kind := m.expr(kinds)
		switch tag := 1 + m.Intn(5); {
		case tag == api.AggAll:
			l = append(l, agg(tag))
		case tag != api.AggSum || kind == ki || kind == kn:
			l = append(l, agg(tag, arg))
		}
	}
	return l
}

// groups is a group, be it whole or partial.
func (m *maker) groups(op int, kinds []int) api.LNode {
	n := api.LNode{Op: op, Aggs: m.aggs(kinds)}
	for range m.Intn(4) {
		n.Keys = append(n.Keys, m.Intn(len(kinds)))
	}
	if len(n.Keys)+len(n.Aggs) == 0 {
		n.Aggs = []api.Agg{agg(api.AggAll)}
	}
	return n
}

// halved is a group begun in one fragment and ended in another one.
func (m *maker) halved(g growing) growing {
	n := m.groups(api.LPartial, g.kinds)
	part, ok := overParts(n, g)
	if !ok {
		return g
	}
	var tags []int
	for _, a := range n.Aggs {
		tags = append(tags, a.Tag)
	}
	end, _ := overParts(final(len(n.Keys), tags...), m.send(part, []int{api.WayShuffle, api.WayShuffle, api.WayGather, api.WayCast}[m.Intn(4)]))
	return end
}

func (m *maker) sort(width int) api.LNode {
	n := sortBy(m.Intn(7) - 1)
	for range m.Intn(4) {
		n.Order = append(n.Order, api.Ord{Col: m.Intn(width), Desc: m.Intn(2) == 0})
	}
	return n
}

// sent is a part that another fragment goes on with, by each Way, sorted now and then.
func (m *maker) sent(g growing) growing {
	switch m.Intn(5) {
	case 0:
		return m.halved(g)
	case 1:
		if sorted, ok := overParts(m.sort(len(g.kinds)), g); ok {
			g = sorted
		}
	}
	return m.send(g, []int{api.WayShuffle, api.WayShuffle, api.WayCast, api.WayGather}[m.Intn(4)])
}

// node is an operator over a part.
func (m *maker) node(kinds []int) api.LNode {
	switch m.Intn(7) {
	case 0:
		return filter(m.cond(kinds))
	case 1, 2:
		n := project()
		for range 1 + m.Intn(5) {
			x, _ := m.expr(kinds)
			if m.Intn(3) > 0 {
				x = col(m.Intn(len(kinds)))
			}
			n.Items = append(n.Items, x)
		}
		return n
	case 3, 4:
		return m.groups(api.LGroup, kinds)
	}
	return distinct()
}

// alike has two parts run at the same nodes.
func (m *maker) alike(a, b growing) (growing, growing) {
	if a.at == api.AtAll && b.at == api.AtOne {
		return m.send(a, api.WayGather), b
	}
	if a.at == api.AtOne && b.at == api.AtAll {
		return a, m.send(b, api.WayGather)
	}
	return a, b
}

// two are two parts under a join, or a union, if there may be one of them.
func (m *maker) two(a, b growing) (growing, bool) {
	a, b = m.alike(a, b)
	if m.sends && a.at == api.AtAll && m.Intn(2) == 0 {
		b = m.send(b, api.WayCast)
	}
	if m.Intn(3) == 0 {
		n := project()
		for k := range b.kinds {
			n.Items = append(n.Items, col(k%len(a.kinds)))
		}
		if like, ok := overParts(n, a); ok {
			if g, ok := overParts(union(), like, b); ok {
				return g, true
			}
		}
	}
	n := join(m.pairs(a.kinds, b.kinds))
	n.Left = m.Intn(3) == 0
	if g, ok := overParts(n, a, b); ok {
		return g, true
	}
	a, _ = overParts(picked(0), a)
	b, _ = overParts(picked(0), b)
	return overParts(join(m.pairs(a.kinds, b.kinds)), a, b)
}

// boldly is what may well fault over a part, or come to many rows; false, if it may not stand there.
func (m *maker) boldly(g growing) (growing, bool) {
	if c := slices.Index(g.kinds, ki); c >= 0 && m.Intn(2) == 0 {
		return overParts(filter(badTruth(c, int64(m.Intn(7)-1))), g)
	}
	a, b := m.alike(g, m.grown(0))
	if m.sends && a.at == api.AtAll {
		b = m.send(b, api.WayCast)
	}
	return overParts(each(), a, b)
}

func (m *maker) grown(depth int) growing {
	if depth == 0 {
		t := m.Intn(len(m.catalog.Tables))
		var kinds []int
		for _, c := range m.catalog.Tables[t].Columns {
			kinds = append(kinds, c.Kind)
		}
		return growing{steps(scan(t, kinds...)), api.AtAll, kinds}
	}
	part := m.grown(depth - 1)
	if m.bold && m.Intn(3) == 0 {
		was := len(m.frags)
		if g, ok := m.boldly(part); ok {
			return g
		}
		m.frags = m.frags[:was]
	}
	if m.Intn(3) == 0 {
		if g, ok := m.two(part, m.grown(m.Intn(depth))); ok {
			return g
		}
	}
	if m.sends && m.Intn(2) == 0 {
		return m.sent(part)
	}
	if g, ok := overParts(m.node(part.kinds), part); ok {
		return g
	}
	return part
}

// newTree is a tree that may be, over the catalog.
func (m *maker) newTree(depth int) api.Logic {
	m.sends = false
	for {
		g := m.grown(1 + m.Intn(depth))
		if m.Intn(3) == 0 {
			g, _ = overParts(m.sort(len(g.kinds)), g)
		}
		if len(g.nodes) <= api.MaxLogic {
			return api.Logic{Nodes: g.nodes}
		}
	}
}

// newPlan is a plan that may be, over the catalog; it need not be sound.
func (m *maker) newPlan(depth int) api.Plan {
	m.sends = true
	for {
		m.frags = nil
		g := m.grown(1 + m.Intn(depth))
		if g.at == api.AtAll {
			g = m.send(g, api.WayGather)
		}
		if m.Intn(4) == 0 {
			g, _ = overParts(m.sort(len(g.kinds)), g)
		}
		p := planOf(append(m.frags, root(g.nodes...))...)
		if _, _, e := prop.Check(p, m.catalog); e == api.OK {
			return p
		}
	}
}

// rows are some of one number each.
func (m *maker) rows() (l []api.Row) {
	for range []int{0, 0, 1, 3, 4, 5, 9, 34, 70}[m.Intn(9)] {
		l = append(l, api.Row{m.value(ki)})
	}
	return l
}

// frag is a fragment over the rows of others, or of a table, with whatever Way.
func (m *maker) frag() api.Frag {
	nodes := [][]api.LNode{
		{input(0, ki)}, {input(0, ki), input(2, ki), union()}, {input(2, ki), distinct()}, {input(0, ki), filter(on(api.NGt, col(0), num(1)))}, {input(0, ki), sortBy(m.Intn(9)-1, down(0))}, {input(0, ki), project(bad(0, 3))},
		{scanU()}, {input(0, ki), input(2, ki), each(), picked(0)}, {input(0, kt)}, {scanU(), input(2, ki), union(), group([]int{0})},
	}[m.Intn(10)]
	f := onAll([]int{1, 1, 2, 2, 3, 3, 4, 4, 5}[m.Intn(9)], nodes...)
	if f.Way == api.WayShuffle {
		f.Cols = []int{m.Intn(9) / 8}
	}
	return f
}

// sender is one of which something was put, sent, acknowledged; it may be done.
func (m *maker) sender(done bool) api.Sender {
	base := 1 + uint64(m.Intn(9))
	s := holds(base, m.Intn(api.MaxHold+1))
	if done {
		s = holds(base, 0)
		s.Ended = true
	} else if n := len(s.Queue); n < api.MaxHold && m.Intn(3) == 0 {
		s.Queue, s.Ended = append(s.Queue, end(base+uint64(n)-1)), true
	}
	s.Sent = base - 1 + uint64(m.Intn(len(s.Queue)+1))
	s.Limit = s.Sent + uint64(m.Intn(9))
	if s.Sent >= base {
		s.Timer = m.Intn(api.Again)
	}
	return s
}

// receiver is one to which something came, all of it, or some ahead.
func (m *maker) receiver(all bool) api.Receiver {
	next := 1 + uint64(m.Intn(9))
	if all {
		return over(next)
	}
	var ahead []uint64
	for n := next + 1; n < next+8; n++ {
		if m.Intn(3) == 0 {
			ahead = append(ahead, n)
		}
	}
	r := waits(next, ahead...)
	if len(ahead) > 0 && m.Intn(3) == 0 {
		last := &r.Ahead[len(ahead)-1]
		last.Batch = end(last.Seq - 1)
	}
	return r
}

// outs are streams that go out of a task of a state.
func (m *maker) outs(state int) (l []api.Out) {
	for to := range sites + 1 {
		if m.Intn(2) == 0 {
			continue
		}
		out := api.Out{To: to, Sender: fresh(uint64(m.Intn(12)))}
		if state == api.TaskSends || state == api.TaskDone {
			out.Sender = m.sender(state == api.TaskDone)
		}
		if state == api.TaskSends && m.Intn(2) == 0 {
			out.Rest = m.rows()
		}
		l = append(l, out)
	}
	return l
}

// task is one that may be, in whatever state.
func (m *maker) task(p place) api.Task {
	state := 1 + m.Intn(4)
	all := state > api.TaskGathers || m.Intn(3) > 0
	var ins []api.In
	for _, s := range [][2]int{{0, 1}, {0, 2}, {0, 4}, {2, 0}} {
		if m.Intn(3) > 0 {
			ins = append(ins, api.In{Frag: s[0], From: s[1], Receiver: m.receiver(all || m.Intn(2) == 0), Rows: m.rows()})
		}
	}
	x := taskOf(p, m.frag(), state, ins, m.outs(state))
	if state == api.TaskFell {
		x.Err = []api.Errno{api.ErrFault, api.ErrOver}[m.Intn(2)]
	} else if state != api.TaskGathers && x.Frag.Way == api.WayRoot {
		x.Rows = m.rows()
	}
	if task.Check(x) != api.OK { // it sends, but all was sent by chance
		return taskOf(p, x.Frag, api.TaskSends, x.Ins, []api.Out{goes(3, holds(1, 1), "1")})
	}
	return x
}

// worker is one that may be, with tasks of several epochs.
func (m *maker) worker() api.Worker {
	w := plain(m.Intn(sites + 1))
	for epoch := 1; epoch <= api.MaxEpochs; epoch++ {
		switch m.Intn(5) {
		case 0:
			w.Gone |= setOf(epoch)
		case 1, 2:
			w.Has |= setOf(epoch)
			for number := m.Intn(9); number < api.MaxFrags && m.Intn(3) > 0; number += 1 + m.Intn(9) {
				w.Tasks = append(w.Tasks, m.task(place{w.Node, epoch, number}))
			}
		}
	}
	return w
}
