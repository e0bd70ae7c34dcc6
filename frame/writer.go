package frame

import (
	"bowsprit/api"
	"bowsprit/codec"
	"bowsprit/octet"
)

// writer lays what may be: each number fits its bytes, each value and row has some.
type writer struct {
	laid []byte
}

// put lays numbers of one byte each.
func (w *writer) put(numbers ...int) {
	for _, n := range numbers {
		w.laid = append(w.laid, byte(n))
	}
}

// add lays what has its bytes already.
func (w *writer) add(parts ...[]byte) {
	for _, b := range parts {
		w.laid = append(w.laid, b...)
	}
}

// list lays how many numbers there are, and these, of one byte each.
func (w *writer) list(numbers []int) {
	w.put(len(numbers))
	w.put(numbers...)
}

// flag is the number of a truth.
func flag(is bool) int {
	if is {
		return 1
	}
	return 0
}

// nothing is what Kinds and Ops have that lay nothing besides themselves.
func nothing[T any](T) {}

// kinds lay what counts of each Kind.
func (w *writer) kinds() map[int]func(api.Msg) {
	return map[int]func(api.Msg){
		api.MsgPlan: w.planned,
		api.MsgHave: nothing[api.Msg],
		api.MsgData: w.data,
		api.MsgAck:  w.ack,
		api.MsgFail: w.fail,
		api.MsgDrop: nothing[api.Msg],
		api.MsgGone: nothing[api.Msg],
	}
}

// msg lays a message, but for what seals it.
func (w *writer) msg(m api.Msg) {
	w.put(m.Kind, m.From, m.To, m.Epoch)
	w.kinds()[m.Kind](m)
}

func (w *writer) planned(m api.Msg) {
	w.put(m.Sites)
	w.plan(m.Plan)
}

// data lays an End's Count in the place of Rows: a batch has the one or the other.
func (w *writer) data(m api.Msg) {
	p := m.Packet
	w.put(m.Frag)
	w.add(octet.Put32(nil, p.Session), octet.Put64(nil, p.Seq))
	w.put(flag(p.Batch.End))
	if p.Batch.End {
		w.add(octet.Put64(nil, p.Batch.Count))
		return
	}
	rows, _, _ := codec.List(p.Batch.Rows)
	w.add(rows)
}

func (w *writer) ack(m api.Msg) {
	w.put(m.Frag)
	w.add(octet.Put32(nil, m.Packet.Session), octet.Put64(nil, m.Packet.Seq), octet.Put64(nil, m.Packet.Limit))
}

func (w *writer) fail(m api.Msg) {
	w.put(flag(m.Err == api.ErrOver))
}

func (w *writer) plan(p api.Plan) {
	ops := w.ops()
	w.put(len(p.Frags))
	for _, f := range p.Frags {
		w.put(f.At, f.Way)
		w.list(f.Cols)
		w.put(len(f.Nodes))
		for _, n := range f.Nodes {
			w.put(n.Op)
			ops[n.Op](n)
		}
	}
}

// ops lay what counts of each Op. The places of a node's parts are not laid: a tree's order tells them.
func (w *writer) ops() map[int]func(api.LNode) {
	return map[int]func(api.LNode){
		api.LScan:     w.leaf,
		api.LJoin:     w.join,
		api.LFilter:   w.filter,
		api.LGroup:    w.group,
		api.LProject:  w.project,
		api.LDistinct: nothing[api.LNode],
		api.LUnion:    nothing[api.LNode],
		api.LSort:     w.sort,
		api.LInput:    w.leaf,
		api.LPartial:  w.group,
		api.LFinal:    w.group,
	}
}

func (w *writer) leaf(n api.LNode) {
	w.put(n.Table)
	w.list(n.Kinds)
}

func (w *writer) join(n api.LNode) {
	w.put(flag(n.Left))
	w.expr(n.Cond)
}

func (w *writer) filter(n api.LNode) {
	w.expr(n.Cond)
}

func (w *writer) group(n api.LNode) {
	w.list(n.Keys)
	w.put(len(n.Aggs))
	for _, a := range n.Aggs {
		w.put(a.Tag)
		w.expr(a.Arg)
	}
}

func (w *writer) project(n api.LNode) {
	w.put(len(n.Items))
	for _, item := range n.Items {
		w.expr(item)
	}
}

// sort lays one more than the Limit, which is -1, if there is none.
func (w *writer) sort(n api.LNode) {
	w.put(len(n.Order))
	for _, o := range n.Order {
		w.put(o.Col, flag(o.Desc))
	}
	w.add(octet.Put32(nil, uint32(n.Limit+1)))
}

// expr lays an expression, or, of an Arg, that there is none.
func (w *writer) expr(x api.Expr) {
	w.add(octet.Put16(nil, uint16(len(x.Nodes))))
	for _, n := range x.Nodes {
		w.put(n.Tag)
		switch n.Tag {
		case api.ECol:
			w.put(n.Col)
		case api.NLit:
			v, _ := codec.Value(n.Value)
			w.add(v)
		}
	}
}
