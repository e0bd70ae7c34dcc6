package frame

import (
	"slices"

	"bowsprit/api"
	"bowsprit/link"
	"bowsprit/prop"
)

// within tells whether a number stands from least to most.
func within(n, least, most int) bool {
	return least <= n && n <= most
}

// isMsg tells whether a message may be, but for how many bytes it has.
func isMsg(m api.Msg) bool {
	return within(m.From, 0, api.MaxSites) && within(m.To, 0, api.MaxSites) && within(m.Epoch, 1, api.MaxEpochs) &&
		Same(m, counting(m)) && isOfKind(m)
}

// counting is a message with nothing but what counts of its Kind.
func counting(m api.Msg) api.Msg {
	c := api.Msg{Kind: m.Kind, From: m.From, To: m.To, Epoch: m.Epoch}
	switch m.Kind {
	case api.MsgPlan:
		c.Sites, c.Plan = m.Sites, m.Plan
	case api.MsgData, api.MsgAck:
		c.Frag, c.Packet = m.Frag, m.Packet
	case api.MsgFail:
		c.Err = m.Err
	}
	return c
}

// isOfKind tells whether there is such a Kind, and what counts of it may be.
func isOfKind(m api.Msg) bool {
	switch m.Kind {
	case api.MsgPlan:
		return within(m.Sites, 1, api.MaxSites) && isPlan(m.Plan)
	case api.MsgData:
		return isOfStream(m, api.PkData)
	case api.MsgAck:
		return isOfStream(m, api.PkAck)
	case api.MsgFail:
		return m.Err == api.ErrFault || m.Err == api.ErrOver
	case api.MsgHave, api.MsgDrop, api.MsgGone:
		return true
	}
	return false
}

// isOfStream tells whether a message may say a packet of a kind.
func isOfStream(m api.Msg, kind int) bool {
	return within(m.Frag, 0, api.MaxFrags-1) && m.Packet.Kind == kind && link.CheckPacket(m.Packet) == api.OK
}

// isPlan tells whether a plan may be laid.
func isPlan(p api.Plan) bool {
	return within(len(p.Frags), 1, api.MaxFrags) && !slices.ContainsFunc(p.Frags, noFrag)
}

// noFrag asks just what is needed to lay a fragment: the plan of it need not be one that may be.
func noFrag(f api.Frag) bool {
	if !within(f.At, api.AtAll, api.AtOne) || !within(f.Way, api.WayShuffle, api.WayRoot) {
		return true
	}
	if len(f.Cols) > api.MaxWidth || slices.ContainsFunc(f.Cols, noColumn) {
		return true
	}
	_, _, e := prop.Kinds(f.Nodes)
	return e != api.OK
}

func noColumn(col int) bool {
	return !within(col, 0, api.MaxWidth-1)
}

// Same (P23.1) holds such that may not be against one another, too.
func Same(a, b api.Msg) bool {
	return heads(a) == heads(b) && prop.Same(a.Plan, b.Plan) && samePacket(a.Packet, b.Packet)
}

// heads are the numbers that a message has besides its plan and its packet.
func heads(m api.Msg) [7]int {
	return [...]int{m.Kind, m.From, m.To, m.Epoch, m.Frag, m.Sites, int(m.Err)}
}

func samePacket(a, b api.Packet) bool {
	return marks(a) == marks(b) && a.Batch.End == b.Batch.End && slices.EqualFunc(a.Batch.Rows, b.Batch.Rows, slices.Equal[api.Row])
}

// marks are the numbers that a packet has besides its rows.
func marks(p api.Packet) [5]uint64 {
	return [...]uint64{uint64(p.Kind), uint64(p.Session), p.Seq, p.Limit, p.Batch.Count}
}
