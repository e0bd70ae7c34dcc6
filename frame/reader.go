package frame

import (
	"bowsprit/api"
	"bowsprit/codec"
	"bowsprit/octet"
)

// reader embeds octet's, which tells of bytes that end too early; of those that are laid otherwise than the writer does it tells itself. Numbers it takes as they are: whether they may be is asked of what was read.
type reader struct {
	*octet.Reader
	all     []byte // what octet's reads, too
	refused bool
}

// wholly is what bytes are of, if just these are of something that may be.
func wholly[T any](b []byte, read func(*reader) T, mayBe func(T) bool) (T, api.Errno) {
	r := &reader{Reader: octet.Read(b), all: b}
	x := read(r)
	if !r.goesOn() || r.Left() > 0 || !mayBe(x) {
		var none T
		return none, api.ErrFrame
	}
	return x, api.OK
}

// goesOn tells whether nothing that is wrong was met.
func (r *reader) goesOn() bool {
	return !r.refused && r.Err() == api.OK
}

// several reads so many of a kind, and goes no further than to what is wrong. It makes no room for them ahead: bytes may say more than they have.
func several[T any](r *reader, count int, one func(*reader) T) []T {
	var l []T
	for range count {
		x := one(r)
		if !r.goesOn() {
			return nil
		}
		l = append(l, x)
	}
	return l
}

// list reads how many there are, of one byte, and these.
func list[T any](r *reader, one func(*reader) T) []T {
	return several(r, r.number(), one)
}

// coded reads what codec laid.
func coded[T any](r *reader, take func([]byte) (T, int, api.Errno)) T {
	x, count, e := take(r.all[len(r.all)-r.Left():])
	if e != api.OK {
		r.refused = true
	}
	r.Raw(count)
	return x
}

func (r *reader) number() int {
	return int(r.U8())
}

func (r *reader) flag() bool {
	n := r.number()
	if n > 1 {
		r.refused = true
	}
	return n == 1
}

// kinds read what counts of each Kind.
func (r *reader) kinds() map[int]func(*api.Msg) {
	return map[int]func(*api.Msg){
		api.MsgPlan: r.planned,
		api.MsgHave: nothing[*api.Msg],
		api.MsgData: r.data,
		api.MsgAck:  r.ack,
		api.MsgFail: r.fail,
		api.MsgDrop: nothing[*api.Msg],
		api.MsgGone: nothing[*api.Msg],
	}
}

// rest reads what counts of a Kind, or an Op, if there is such a one.
func rest[T any](r *reader, reads map[int]func(*T), which int, x *T) {
	read, known := reads[which]
	if !known {
		r.refused = true
		return
	}
	read(x)
}

// msg reads a message that was opened.
func (r *reader) msg() api.Msg {
	m := api.Msg{Kind: r.number(), From: r.number(), To: r.number(), Epoch: r.number()}
	rest(r, r.kinds(), m.Kind, &m)
	return m
}

func (r *reader) planned(m *api.Msg) {
	m.Sites = r.number()
	m.Plan = r.plan()
}

func (r *reader) data(m *api.Msg) {
	m.Frag = r.number()
	m.Packet = api.Packet{Kind: api.PkData, Session: r.U32(), Seq: r.U64()}
	b := &m.Packet.Batch
	if b.End = r.flag(); b.End {
		b.Count = r.U64()
		return
	}
	b.Rows = coded(r, codec.TakeList)
}

func (r *reader) ack(m *api.Msg) {
	m.Frag = r.number()
	m.Packet = api.Packet{Kind: api.PkAck, Session: r.U32(), Seq: r.U64(), Limit: r.U64()}
}

func (r *reader) fail(m *api.Msg) {
	m.Err = api.ErrFault
	if r.flag() {
		m.Err = api.ErrOver
	}
}

func (r *reader) plan() api.Plan {
	return api.Plan{Frags: list(r, (*reader).frag)}
}

func (r *reader) frag() api.Frag {
	f := api.Frag{At: r.number(), Way: r.number(), Cols: list(r, (*reader).number)}
	reads := r.ops()
	f.Nodes = list(r, func(r *reader) api.LNode {
		n := api.LNode{Op: r.number()}
		rest(r, reads, n.Op, &n)
		return n
	})
	var l loose
	for place := range f.Nodes {
		n := &f.Nodes[place]
		n.A, n.B = l.take(partsOfOp(n.Op), place)
	}
	return f
}

// ops read what counts of each Op.
func (r *reader) ops() map[int]func(*api.LNode) {
	return map[int]func(*api.LNode){
		api.LScan:     r.leaf,
		api.LJoin:     r.join,
		api.LFilter:   r.filter,
		api.LGroup:    r.group,
		api.LProject:  r.project,
		api.LDistinct: nothing[*api.LNode],
		api.LUnion:    nothing[*api.LNode],
		api.LSort:     r.sort,
		api.LInput:    r.leaf,
		api.LPartial:  r.group,
		api.LFinal:    r.group,
	}
}

func (r *reader) leaf(n *api.LNode) {
	n.Table = r.number()
	n.Kinds = list(r, (*reader).number)
}

func (r *reader) join(n *api.LNode) {
	n.Left = r.flag()
	n.Cond = r.expr()
}

func (r *reader) filter(n *api.LNode) {
	n.Cond = r.expr()
}

func (r *reader) group(n *api.LNode) {
	n.Keys = list(r, (*reader).number)
	n.Aggs = list(r, (*reader).agg)
}

func (r *reader) agg() api.Agg {
	return api.Agg{Tag: r.number(), Arg: r.expr()}
}

func (r *reader) project(n *api.LNode) {
	n.Items = list(r, (*reader).expr)
}

func (r *reader) sort(n *api.LNode) {
	n.Order = list(r, (*reader).ord)
	n.Limit = int(r.U32()) - 1
}

func (r *reader) ord() api.Ord {
	return api.Ord{Col: r.number(), Desc: r.flag()}
}

func (r *reader) expr() api.Expr {
	x := api.Expr{Nodes: several(r, int(r.U16()), (*reader).node)}
	var l loose
	for place := range x.Nodes {
		n := &x.Nodes[place]
		n.L, n.R = l.take(partsOfTag(n.Tag), place)
	}
	return x
}

func (r *reader) node() api.ENode {
	n := api.ENode{Tag: r.number()}
	switch n.Tag {
	case api.ECol:
		n.Col = r.number()
	case api.NLit:
		n.Value = coded(r, codec.TakeValue)
	}
	return n
}
