package link

import (
	"slices"

	"bowsprit/api"
)

// limit is up to which number a receiver has room.
func limit(r api.Receiver) uint64 {
	return min(r.Next-1+uint64(r.Room-len(r.Buffer)), api.MaxSeq)
}

// copyOfReceiver is one with batches of its own.
func copyOfReceiver(r api.Receiver) api.Receiver {
	r.Ahead = copied(r.Ahead, copyOfHeld)
	r.Buffer = copied(r.Buffer, copyOfBatch)
	return r
}

// changedReceiver is what becomes of a receiver by what is done to it.
func changedReceiver(r api.Receiver, done func(r *api.Receiver) api.Errno) (api.Receiver, api.Errno) {
	return changed(r, CheckReceiver, copyOfReceiver, done)
}

// waitsFor tells whether a packet has something new for a receiver.
func waitsFor(r api.Receiver, p api.Packet) bool {
	if CheckPacket(p) != api.OK || p.Kind != api.PkData || p.Session != r.Session {
		return false
	}
	if r.Over || hasEnd(r.Buffer) || !within(p.Seq, r.Next, limit(r)) {
		return false
	}
	return !slices.ContainsFunc(r.Ahead, func(h api.Held) bool {
		return h.Seq == p.Seq || h.Batch.End && h.Seq < p.Seq || p.Batch.End && p.Seq < h.Seq
	})
}

// hold has a batch stand in Ahead at its place.
func hold(r *api.Receiver, h api.Held) {
	at := 0
	for at < len(r.Ahead) && r.Ahead[at].Seq < h.Seq {
		at++
	}
	r.Ahead = slices.Insert(r.Ahead, at, h)
}

// follow has what is ahead stand at the Buffer's end, as long as its first one is the one that is wanted.
func follow(r *api.Receiver) {
	followed := 0
following:
	for _, h := range r.Ahead {
		switch h.Seq {
		case r.Next:
			r.Buffer = append(r.Buffer, h.Batch)
			r.Next++
			followed++
			continue following
		default:
			break following
		}
	}
	r.Ahead = slices.Delete(r.Ahead, 0, followed)
}

// Hear (P22.5) holds what is wanted as what is ahead for a moment, so that it is the first one of these to follow.
func Hear(r api.Receiver, p api.Packet) (api.Receiver, api.Errno) {
	return changedReceiver(r, func(r *api.Receiver) api.Errno {
		if waitsFor(*r, p) {
			hold(r, api.Held{Seq: p.Seq, Batch: copyOfBatch(p.Batch)})
			follow(r)
		}
		return api.OK
	})
}

// Ack: P22.5.
func Ack(r api.Receiver) (api.Packet, api.Errno) {
	if e := CheckReceiver(r); e != api.OK {
		return api.Packet{}, e
	}
	return api.Packet{Kind: api.PkAck, Session: r.Session, Seq: r.Next, Limit: limit(r)}, api.OK
}

// Take: P22.5.
func Take(r api.Receiver) (api.Receiver, api.Batch, api.Errno) {
	var first api.Batch
	after, e := changedReceiver(r, func(r *api.Receiver) api.Errno {
		if len(r.Buffer) == 0 {
			return api.ErrNone
		}
		first = r.Buffer[0]
		r.Buffer = slices.Delete(r.Buffer, 0, 1)
		r.Over = first.End
		return api.OK
	})
	return after, first, e
}
