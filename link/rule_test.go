package link_test

import (
	"maps"
	"slices"

	"bowsprit/api"
)

// What the chapter says, reckoned apart from the program: what an end has stands in a map by numbers, and what is sent, heard and taken is told from which numbers stand there.

// rowByRule tells whether a row may be.
func rowByRule(r api.Row) bool {
	for _, v := range r {
		plain := api.Value{Kind: v.Kind}
		switch v.Kind {
		case api.VNull:
		case api.VBool:
			plain.N = v.N & 1
		case api.VInt:
			plain.N = v.N
		case api.VText:
			plain.S = v.S[:min(len(v.S), api.MaxText)]
		case api.VSum:
			plain.N, plain.U = v.N, v.U
		default:
			return false
		}
		if plain != v {
			return false
		}
	}
	return len(r) <= api.MaxWidth
}

// batchByRule tells whether a batch may be of a number.
func batchByRule(b api.Batch, n uint64) bool {
	if n == 0 {
		return false
	}
	for _, r := range b.Rows {
		if !rowByRule(r) {
			return false
		}
	}
	switch {
	case b.End:
		return len(b.Rows) == 0 && n-b.Count == 1
	case b.Count != 0:
		return false
	}
	return len(b.Rows) > 0 && len(b.Rows) <= api.MaxBatch
}

// batchesByRule tells whether batches, by their numbers, may be; an end is the last of them.
func batchesByRule(have map[uint64]api.Batch) bool {
	for n, b := range have {
		if !batchByRule(b, n) {
			return false
		}
		for other := range have {
			if b.End && other > n {
				return false
			}
		}
	}
	return true
}

// endByRule is the number of the end among some, or 0.
func endByRule(have map[uint64]api.Batch) uint64 {
	for n, b := range have {
		if b.End {
			return n
		}
	}
	return 0
}

func sessionByRule(session uint32) bool {
	return session != 0 && session <= api.MaxSession
}

func packetByRule(p api.Packet) api.Errno {
	bare := api.Packet{Kind: p.Kind, Session: p.Session, Seq: p.Seq}
	room := p.Limit
	may := false
	switch p.Kind {
	case api.PkData:
		bare.Batch = p.Batch
		may = p.Seq <= api.MaxSeq && batchByRule(p.Batch, p.Seq)
	case api.PkAck:
		bare.Limit = p.Limit
		may = p.Seq > 0 && room <= api.MaxSeq && room+1 >= p.Seq
	}
	if may && sessionByRule(p.Session) && same(p, bare) {
		return api.OK
	}
	return api.ErrBatch
}

// queued are a sender's batches by their numbers.
func queued(s api.Sender) map[uint64]api.Batch {
	have := map[uint64]api.Batch{}
	for k, b := range s.Queue {
		have[s.Base+uint64(k)] = b
	}
	return have
}

// lastByRule is the number of a sender's last batch; of none one less than Base.
func lastByRule(s api.Sender) uint64 {
	last := s.Base - 1
	for n := range queued(s) {
		last = max(last, n)
	}
	return last
}

func senderByRule(s api.Sender) api.Errno {
	have := queued(s)
	wrong := []bool{
		!sessionByRule(s.Session), s.Base == 0, s.Base > api.MaxSeq, len(s.Queue) > api.MaxHold, lastByRule(s) > api.MaxSeq,
		!batchesByRule(have), endByRule(have) != 0 && !s.Ended,
		s.Sent+1 < s.Base, s.Sent > lastByRule(s), s.Limit < s.Sent, s.Limit > api.MaxSeq,
		s.Timer < 0, s.Timer >= api.Again, s.Timer != 0 && s.Sent+1 == s.Base,
	}
	if slices.Contains(wrong, true) {
		return api.ErrLink
	}
	return api.OK
}

// buffered are a receiver's batches that were not taken, by their numbers; those ahead stand in another map.
func buffered(r api.Receiver) map[uint64]api.Batch {
	have := map[uint64]api.Batch{}
	for k, b := range slices.Backward(r.Buffer) {
		have[r.Next-uint64(len(r.Buffer)-k)] = b
	}
	return have
}

func aheadByRule(r api.Receiver) map[uint64]api.Batch {
	have := map[uint64]api.Batch{}
	for _, h := range r.Ahead {
		have[h.Seq] = h.Batch
	}
	return have
}

// limitByRule is up to which number there is room, behind what was taken.
func limitByRule(r api.Receiver) uint64 {
	taken := r.Next - 1 - uint64(len(r.Buffer))
	return min(taken+uint64(r.Room), api.MaxSeq)
}

func receiverByRule(r api.Receiver) api.Errno {
	had, ahead := uint64(len(r.Buffer)), aheadByRule(r)
	if !sessionByRule(r.Session) || r.Room < 1 || r.Room > api.MaxHold || r.Next < 1 || r.Next > api.MaxSeq+1 || had >= r.Next || had > uint64(r.Room) {
		return api.ErrLink
	}
	numbers := slices.Sorted(maps.Keys(ahead))
	wrong := []bool{
		!batchesByRule(buffered(r)), !batchesByRule(ahead), len(ahead) != len(r.Ahead), endByRule(buffered(r)) != 0 && len(ahead) > 0,
		len(numbers) > 0 && (numbers[0] <= r.Next || slices.Max(numbers) > limitByRule(r)), r.Over && (had > 0 || len(ahead) > 0 || r.Next == 1),
	}
	for k, h := range r.Ahead {
		wrong = append(wrong, slices.Index(numbers, h.Seq) != k)
	}
	if slices.Contains(wrong, true) {
		return api.ErrLink
	}
	return api.OK
}

// tickByRule is what a tick makes of a sender that may be, and what it sends.
func tickByRule(s api.Sender) (api.Sender, []api.Packet) {
	const lastOf = api.Again - 1
	under := s.Sent >= s.Base
	from := s.Sent + 1
	if under && s.Timer == lastOf {
		from = s.Base
	}
	var l []api.Packet
	have := queued(s)
	for n := from; n <= min(s.Limit, lastByRule(s)); n++ {
		l = append(l, data(n, have[n]))
		l[len(l)-1].Session = s.Session
	}
	if len(l) > 0 {
		s.Sent = max(s.Sent, l[len(l)-1].Seq)
	}
	s.Timer = map[bool]int{true: (s.Timer + 1) % api.Again, false: 0}[under]
	return s, l
}

// ackedByRule is what a packet makes of a sender that may be.
func ackedByRule(s api.Sender, p api.Packet) api.Sender {
	if packetByRule(p) != api.OK || p.Kind != api.PkAck || p.Session != s.Session || p.Seq < s.Base || p.Seq > s.Sent+1 || p.Seq > api.MaxSeq {
		return s
	}
	after := api.Sender{Session: s.Session, Base: p.Seq, Sent: s.Sent, Limit: max(s.Limit, p.Limit), Timer: s.Timer, Ended: s.Ended}
	have := queued(s)
	for n := p.Seq; n <= lastByRule(s); n++ {
		after.Queue = append(after.Queue, have[n])
	}
	if p.Seq != s.Base || s.Sent < p.Seq {
		after.Timer = 0
	}
	return after
}

// hearByRule is what a packet makes of a receiver that may be.
func hearByRule(r api.Receiver, p api.Packet) api.Receiver {
	if packetByRule(p) != api.OK || p.Kind != api.PkData || p.Session != r.Session || r.Over || endByRule(buffered(r)) != 0 {
		return r
	}
	all := buffered(r)
	maps.Copy(all, aheadByRule(r))
	if _, there := all[p.Seq]; there || p.Seq < r.Next || p.Seq > limitByRule(r) {
		return r
	}
	if all[p.Seq] = p.Batch; !batchesByRule(all) {
		return r // the end is not the last one
	}
	after := api.Receiver{Session: r.Session, Room: r.Room}
	taken := r.Next - 1 - uint64(len(r.Buffer))
	for after.Next = taken + 1; len(all[after.Next].Rows) > 0 || all[after.Next].End; after.Next++ {
		after.Buffer = append(after.Buffer, all[after.Next])
		delete(all, after.Next)
	}
	for _, n := range slices.Sorted(maps.Keys(all)) {
		after.Ahead = append(after.Ahead, api.Held{Seq: n, Batch: all[n]})
	}
	return after
}
