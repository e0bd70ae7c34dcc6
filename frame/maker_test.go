package frame_test

import (
	"math"
	"math/rand"
	"slices"

	"bowsprit/api"
	"bowsprit/prop"
)

// maker makes messages and plans that may be, by chance.
type maker struct {
	*rand.Rand
}

func newMaker(seed int64) *maker {
	return &maker{rand.New(rand.NewSource(seed))}
}

func (m *maker) oneIn(n int) bool {
	return m.Intn(n) == 0
}

// numbers are so many, each below another.
func (m *maker) numbers(count, below int) (l []int) {
	for range count {
		l = append(l, m.Intn(below))
	}
	return l
}

func (m *maker) number() int64 {
	edges := []int64{0, 1, -1, 255, 256, math.MaxInt64, math.MinInt64, 1 << 32}
	if m.oneIn(3) {
		return edges[m.Intn(len(edges))]
	}
	return int64(m.Uint64()) >> m.Intn(64)
}

func (m *maker) text() string {
	b := make([]byte, []int{m.Intn(4), m.Intn(api.MaxText + 1), api.MaxText}[m.Intn(3)])
	m.Read(b)
	return string(b)
}

// value is one of a kind.
func (m *maker) value(kind int) api.Value {
	switch kind {
	case kb:
		return api.Value{Kind: kb, N: int64(m.Intn(2))}
	case ki:
		return number(m.number())
	case kt:
		return text(m.text())
	case ks:
		return sumOf(m.number(), uint64(m.number()))
	}
	return null
}

// leaf is a column of a kind, if there is one, or a literal, which may be null.
func (m *maker) leaf(kind int, over []int) api.Expr {
	if at := m.Intn(len(over)); over[at] == kind {
		return col(at)
	}
	if m.oneIn(6) {
		return lit(null)
	}
	return lit(m.value(kind))
}

// expr is an expression of a kind, or of none, over columns of kinds.
func (m *maker) expr(kind int, over []int, depth int) api.Expr {
	if depth == 0 || kind == kn || kind == kt || m.oneIn(4) {
		return m.leaf(kind, over)
	}
	part := func(kind int) api.Expr { return m.expr(kind, over, depth-1) }
	if kind == ki {
		if m.oneIn(4) {
			return on(api.NNeg, part(ki))
		}
		return on(api.NAdd+m.Intn(4), part(ki), part(ki))
	}
	switch m.Intn(4) {
	case 0:
		return on(api.NNot, part(kb))
	case 1:
		return on(api.NIsNull+m.Intn(2), part(m.Intn(4)))
	case 2:
		own := m.Intn(4)
		return on(api.NEq+m.Intn(6), part(own), part(own))
	}
	return on(api.NAnd+m.Intn(2), part(kb), part(kb))
}

func (m *maker) anyExpr(over []int) api.Expr {
	return m.expr(m.Intn(4), over, m.Intn(5))
}

func (m *maker) aggs(over []int) (l []api.Agg) {
	for range m.Intn(4) {
		switch tag := 1 + m.Intn(5); tag {
		case api.AggAll:
			l = append(l, agg(tag))
		case api.AggSum:
			l = append(l, agg(tag, m.expr(ki, over, m.Intn(4))))
		default:
			l = append(l, agg(tag, m.anyExpr(over)))
		}
	}
	return l
}

// node is one that stands over a part of kinds; it may be that it may not.
func (m *maker) node(over []int) api.LNode {
	switch m.Intn(7) {
	case 0:
		return filter(m.expr(kb, over, m.Intn(6)))
	case 1:
		n := project()
		for range 1 + m.Intn(4) {
			n.Items = append(n.Items, m.anyExpr(over))
		}
		return n
	case 2:
		return distinct()
	case 3:
		return group(m.numbers(m.Intn(4), len(over)), m.aggs(over)...)
	case 4:
		return partial(m.numbers(m.Intn(4), len(over)), m.aggs(over)...)
	case 5:
		n := sortBy([]int{-1, 0, m.Intn(1000), math.MaxInt32}[m.Intn(4)])
		for _, column := range m.numbers(m.Intn(4), len(over)) {
			n.Order = append(n.Order, api.Ord{Col: column, Desc: m.oneIn(2)})
		}
		return n
	}
	n := api.LNode{Op: api.LFinal, Keys: numbers(0, m.Intn(min(4, len(over)+1))-1)}
	for _, kind := range over[len(n.Keys):] {
		tags := map[int][]int{ks: {api.AggSum}, ki: {api.AggAll, api.AggCount, api.AggMin, api.AggMax}}[kind]
		if tags == nil {
			tags = []int{api.AggMin, api.AggMax}
		}
		n.Aggs = append(n.Aggs, agg(tags[m.Intn(len(tags))]))
	}
	return n
}

func (m *maker) leafNode() api.LNode {
	if m.oneIn(2) {
		n := scan(m.Intn(api.MaxTables))
		for range 1 + m.Intn(api.MaxColumns) {
			n.Kinds = append(n.Kinds, kb+m.Intn(3))
		}
		return n
	}
	return input(m.Intn(api.MaxFrags), m.numbers(1+m.Intn([]int{3, api.MaxWidth}[m.Intn(2)]), 4+m.Intn(2))...)
}

// over are the nodes with one more, if they may be; else as they are.
func over(l []api.LNode, more ...api.LNode) []api.LNode {
	all := steps(append(slices.Clone(l), more...)...)
	if _, _, e := prop.Kinds(all); e != api.OK {
		return l
	}
	return all
}

// grown are nodes that may be.
func (m *maker) grown(depth int) []api.LNode {
	l := steps(m.leafNode())
	for range depth {
		kinds, _, _ := prop.Kinds(l)
		own := kinds[len(l)-1]
		if !m.oneIn(4) {
			l = over(l, m.node(own))
			continue
		}
		if m.oneIn(3) { // over what has just the same columns
			l = over(l, append(slices.Clone(l), union())...)
			continue
		}
		n := join(m.expr(kb, own, 2))
		n.Left = m.oneIn(2)
		l = over(l, append(m.grown(m.Intn(depth)), n)...)
	}
	return l
}

func (m *maker) plan(most int) api.Plan {
	var p api.Plan
	for range 1 + m.Intn(most) {
		f := api.Frag{Nodes: m.grown(m.Intn(8)), At: 1 + m.Intn(2), Way: 1 + m.Intn(4)}
		if m.oneIn(2) {
			f.Cols = m.numbers(m.Intn(api.MaxWidth+1), api.MaxWidth)
		}
		p.Frags = append(p.Frags, f)
	}
	return p
}

// most is a number from 1 on to the greatest one, near to an end as often as not.
func (m *maker) most(greatest uint64) uint64 {
	switch m.Intn(4) {
	case 0:
		return 1 + uint64(m.Intn(4))
	case 1:
		return greatest - uint64(m.Intn(3))
	}
	return 1 + m.Uint64()%greatest
}

func (m *maker) packet(kind int) api.Packet {
	p := api.Packet{Kind: kind, Session: uint32(m.most(api.MaxSession)), Seq: m.most(api.MaxSeq)}
	switch {
	case kind == api.PkAck:
		p.Limit = p.Seq - 1 + m.Uint64()%(api.MaxSeq-p.Seq+2)
	case m.oneIn(3):
		p.Batch = api.Batch{End: true, Count: p.Seq - 1}
	default:
		for range 1 + m.Intn(api.MaxBatch) {
			r := api.Row{}
			for range m.Intn(api.MaxWidth + 1) {
				r = append(r, m.value(m.Intn(5)))
			}
			p.Batch.Rows = append(p.Batch.Rows, r)
		}
	}
	return p
}

// msg is a message of a kind.
func (m *maker) msg(kind int) api.Msg {
	x := api.Msg{Kind: kind, From: m.Intn(api.MaxSites + 1), To: m.Intn(api.MaxSites + 1), Epoch: 1 + m.Intn(api.MaxEpochs)}
	switch kind {
	case api.MsgPlan:
		x.Sites, x.Plan = 1+m.Intn(api.MaxSites), m.plan(5)
	case api.MsgData:
		x.Frag, x.Packet = m.Intn(api.MaxFrags), m.packet(api.PkData)
	case api.MsgAck:
		x.Frag, x.Packet = m.Intn(api.MaxFrags), m.packet(api.PkAck)
	case api.MsgFail:
		x.Err = []api.Errno{api.ErrFault, api.ErrOver}[m.Intn(2)]
	}
	return x
}

// opsOf are the Ops and the Tags that a plan has, each as often.
func opsOf(p api.Plan) (ops, tags []int) {
	inExpr := func(x api.Expr) {
		for _, n := range x.Nodes {
			tags = append(tags, n.Tag)
		}
	}
	for _, f := range p.Frags {
		for _, n := range f.Nodes {
			ops = append(ops, n.Op)
			inExpr(n.Cond)
			for _, x := range n.Items {
				inExpr(x)
			}
			for _, a := range n.Aggs {
				inExpr(a.Arg)
			}
		}
	}
	return ops, tags
}
