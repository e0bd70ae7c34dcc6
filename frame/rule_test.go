package frame_test

import (
	"bytes"
	"hash/crc32"
	"slices"

	"bowsprit/api"
	"bowsprit/link"
	"bowsprit/prop"
)

// What stands here lays and reads messages apart from the program: from the tables of the chapter, row by row.

// wide are the bytes of a number, the highest one first.
func wide(count int, n uint64) []byte {
	if count == 0 {
		return nil
	}
	return append(wide(count-1, n>>8), byte(n))
}

func bytesOf(numbers ...int) (b []byte) {
	for _, n := range numbers {
		b = append(b, byte(n))
	}
	return b
}

func truth(is bool) []byte {
	return map[bool][]byte{true: {1}, false: {0}}[is]
}

// counted are things behind how many there are of them, of so many bytes.
func counted[T any](count int, l []T, lay func(T) []byte) []byte {
	b := wide(count, uint64(len(l)))
	for _, x := range l {
		b = append(b, lay(x)...)
	}
	return b
}

func oneByte(n int) []byte {
	return []byte{byte(n)}
}

func layValue(v api.Value) []byte {
	b := bytesOf(v.Kind)
	switch v.Kind {
	case kb:
		b = append(b, byte(v.N))
	case ki:
		b = append(b, wide(8, uint64(v.N))...)
	case kt:
		b = append(append(b, byte(len(v.S))), v.S...)
	case ks:
		b = slices.Concat(b, wide(8, uint64(v.N)), wide(8, v.U))
	}
	return b
}

func layRow(r api.Row) []byte {
	return counted(1, r, layValue)
}

func layExpr(x api.Expr) []byte {
	return counted(2, x.Nodes, func(n api.ENode) []byte {
		switch n.Tag {
		case api.ECol:
			return bytesOf(n.Tag, n.Col)
		case api.NLit:
			return append(bytesOf(n.Tag), layValue(n.Value)...)
		}
		return bytesOf(n.Tag)
	})
}

func layAgg(a api.Agg) []byte {
	return append(bytesOf(a.Tag), layExpr(a.Arg)...)
}

func layOrd(o api.Ord) []byte {
	return append(bytesOf(o.Col), truth(o.Desc)...)
}

func layNode(n api.LNode) []byte {
	op := bytesOf(n.Op)
	switch n.Op {
	case api.LScan, api.LInput:
		return slices.Concat(op, bytesOf(n.Table), counted(1, n.Kinds, oneByte))
	case api.LJoin:
		return slices.Concat(op, truth(n.Left), layExpr(n.Cond))
	case api.LFilter:
		return slices.Concat(op, layExpr(n.Cond))
	case api.LGroup, api.LPartial, api.LFinal:
		return slices.Concat(op, counted(1, n.Keys, oneByte), counted(1, n.Aggs, layAgg))
	case api.LProject:
		return slices.Concat(op, counted(1, n.Items, layExpr))
	case api.LSort:
		return slices.Concat(op, counted(1, n.Order, layOrd), wide(4, uint64(n.Limit+1)))
	}
	return op
}

func layFrag(f api.Frag) []byte {
	return slices.Concat(bytesOf(f.At, f.Way), counted(1, f.Cols, oneByte), counted(1, f.Nodes, layNode))
}

func layPlan(p api.Plan) []byte {
	return counted(1, p.Frags, layFrag)
}

// layMsg are a message's bytes, but for what seals them.
func layMsg(m api.Msg) []byte {
	b, p := bytesOf(m.Kind, m.From, m.To, m.Epoch), m.Packet
	switch m.Kind {
	case api.MsgPlan:
		return slices.Concat(b, bytesOf(m.Sites), layPlan(m.Plan))
	case api.MsgData:
		b = slices.Concat(b, bytesOf(m.Frag), wide(4, uint64(p.Session)), wide(8, p.Seq), truth(p.Batch.End))
		if p.Batch.End {
			return append(b, wide(8, p.Batch.Count)...)
		}
		return append(b, counted(2, p.Batch.Rows, layRow)...)
	case api.MsgAck:
		return slices.Concat(b, bytesOf(m.Frag), wide(4, uint64(p.Session)), wide(8, p.Seq), wide(8, p.Limit))
	case api.MsgFail:
		return append(b, truth(m.Err == api.ErrOver)...)
	}
	return b
}

// checksum is what seals bytes.
func checksum(b []byte) []byte {
	n := uint64(crc32.Checksum(b, crc32.MakeTable(crc32.Castagnoli)))
	l := wide(4, n)
	slices.Reverse(l)
	return l
}

func seal(b []byte) []byte {
	return slices.Concat(b, checksum(b))
}

// planByRule tells whether a plan may be laid.
func planByRule(p api.Plan) bool {
	if len(p.Frags) < 1 || len(p.Frags) > 30 {
		return false
	}
	for _, f := range p.Frags {
		if f.At != api.AtAll && f.At != api.AtOne || f.Way < 1 || f.Way > 4 || len(f.Cols) > 16 {
			return false
		}
		for _, column := range f.Cols {
			if column < 0 || column > 15 {
				return false
			}
		}
		if _, _, e := prop.Kinds(f.Nodes); e != api.OK {
			return false
		}
	}
	return true
}

// msgByRule tells whether a message may be.
func msgByRule(m api.Msg) bool {
	if m.From < 0 || m.From > 8 || m.To < 0 || m.To > 8 || m.Epoch < 1 || m.Epoch > 12 || len(layMsg(m))+4 > 20000 {
		return false
	}
	own := api.Msg{Kind: m.Kind, From: m.From, To: m.To, Epoch: m.Epoch}
	isPacket := func(kind int) bool {
		own.Frag, own.Packet = m.Frag, m.Packet
		return 0 <= m.Frag && m.Frag <= 29 && m.Packet.Kind == kind && link.CheckPacket(m.Packet) == api.OK
	}
	may := false
	switch m.Kind {
	case api.MsgPlan:
		own.Sites, own.Plan = m.Sites, m.Plan
		may = 1 <= m.Sites && m.Sites <= 8 && planByRule(m.Plan)
	case api.MsgData:
		may = isPacket(api.PkData)
	case api.MsgAck:
		may = isPacket(api.PkAck)
	case api.MsgFail:
		own.Err = m.Err
		may = m.Err == api.ErrFault || m.Err == api.ErrOver
	case api.MsgHave, api.MsgDrop, api.MsgGone:
		may = true
	}
	return may && same(m, own)
}

// cursor reads bytes with little heed: behind their end there are noughts, and flags are whatever is none. Whether what it reads is of just these bytes is told by laying it again.
type cursor struct {
	b []byte
}

func (c *cursor) wide(count int) (n uint64) {
	for range count {
		n <<= 8
		if len(c.b) > 0 {
			n, c.b = n|uint64(c.b[0]), c.b[1:]
		}
	}
	return n
}

func (c *cursor) number() int {
	return int(c.wide(1))
}

// uncounted reads as many things as there are said to be, but not behind the bytes' end.
func uncounted[T any](c *cursor, count int, read func() T) (l []T) {
	for left := c.wide(count); left > 0 && len(c.b) > 0; left-- {
		l = append(l, read())
	}
	return l
}

func (c *cursor) value() api.Value {
	v := api.Value{Kind: c.number()}
	switch v.Kind {
	case kb:
		v.N = int64(c.wide(1))
	case ki:
		v.N = int64(c.wide(8))
	case kt:
		count := min(c.number(), len(c.b))
		v.S, c.b = string(c.b[:count]), c.b[count:]
	case ks:
		v.N = int64(c.wide(8))
		v.U = c.wide(8)
	}
	return v
}

func (c *cursor) row() api.Row {
	return uncounted(c, 1, c.value)
}

func (c *cursor) expr() api.Expr {
	nodes := uncounted(c, 2, func() api.ENode {
		n := api.ENode{Tag: c.number()}
		switch n.Tag {
		case api.ECol:
			n.Col = c.number()
		case api.NLit:
			n.Value = c.value()
		}
		return n
	})
	var parts []int
	for _, n := range nodes {
		switch {
		case n.Tag >= api.NAdd && n.Tag <= api.NOr:
			parts = append(parts, 2)
		case n.Tag >= api.NNeg && n.Tag <= api.NNotNull:
			parts = append(parts, 1)
		default:
			parts = append(parts, 0)
		}
	}
	for k, own := range placed(parts) {
		nodes[k].L, nodes[k].R = own[0], own[1]
	}
	return api.Expr{Nodes: nodes}
}

func (c *cursor) node() api.LNode {
	n := api.LNode{Op: c.number()}
	switch n.Op {
	case api.LScan, api.LInput:
		n.Table = c.number()
		n.Kinds = uncounted(c, 1, c.number)
	case api.LJoin:
		n.Left = c.number() > 0
		n.Cond = c.expr()
	case api.LFilter:
		n.Cond = c.expr()
	case api.LGroup, api.LPartial, api.LFinal:
		n.Keys = uncounted(c, 1, c.number)
		n.Aggs = uncounted(c, 1, func() api.Agg {
			tag := c.number()
			return api.Agg{Tag: tag, Arg: c.expr()}
		})
	case api.LProject:
		n.Items = uncounted(c, 1, c.expr)
	case api.LSort:
		n.Order = uncounted(c, 1, func() api.Ord {
			column := c.number()
			return api.Ord{Col: column, Desc: c.number() > 0}
		})
		n.Limit = int(c.wide(4)) - 1
	}
	return n
}

func (c *cursor) frag() api.Frag {
	f := api.Frag{At: c.number()}
	f.Way = c.number()
	f.Cols = uncounted(c, 1, c.number)
	f.Nodes = steps(uncounted(c, 1, c.node)...)
	return f
}

func (c *cursor) plan() api.Plan {
	return api.Plan{Frags: uncounted(c, 1, c.frag)}
}

func (c *cursor) msg() api.Msg {
	m := api.Msg{Kind: c.number()}
	m.From, m.To = c.number(), c.number()
	m.Epoch = c.number()
	switch m.Kind {
	case api.MsgPlan:
		m.Sites = c.number()
		m.Plan = c.plan()
	case api.MsgData, api.MsgAck:
		m.Frag = c.number()
		m.Packet.Session = uint32(c.wide(4))
		m.Packet.Seq = c.wide(8)
		if m.Packet.Kind = api.PkAck; m.Kind == api.MsgAck {
			m.Packet.Limit = c.wide(8)
			break
		}
		m.Packet.Kind = api.PkData
		if b := &m.Packet.Batch; c.number() > 0 {
			b.End, b.Count = true, c.wide(8)
		} else {
			b.Rows = uncounted(c, 2, c.row)
		}
	case api.MsgFail:
		m.Err = map[bool]api.Errno{true: api.ErrOver, false: api.ErrFault}[c.number() > 0]
	}
	return m
}

// decodeByRule is what Decode says.
func decodeByRule(b []byte) (api.Msg, api.Errno) {
	if len(b) < 4 {
		return api.Msg{}, api.ErrShort
	}
	ahead := b[:len(b)-4]
	if !bytes.Equal(b[len(b)-4:], checksum(ahead)) {
		return api.Msg{}, api.ErrSum
	}
	m := (&cursor{ahead}).msg()
	if !bytes.Equal(layMsg(m), ahead) || !msgByRule(m) {
		return api.Msg{}, api.ErrFrame
	}
	return m, api.OK
}

// decodePlanByRule is what DecodePlan says.
func decodePlanByRule(b []byte) (api.Plan, api.Errno) {
	p := (&cursor{b}).plan()
	if !bytes.Equal(layPlan(p), b) || !planByRule(p) {
		return api.Plan{}, api.ErrFrame
	}
	return p, api.OK
}
