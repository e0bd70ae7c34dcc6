package link

import (
	"iter"
	"slices"

	"bowsprit/api"
)

// wanted is the number of the batch that is put next.
func wanted(s api.Sender) uint64 {
	return s.Base + uint64(len(s.Queue))
}

// underWay tells whether something is.
func underWay(s api.Sender) bool {
	return s.Sent >= s.Base
}

// again tells whether all that is under way is to be sent once more.
func again(s api.Sender) bool {
	return underWay(s) && s.Timer == api.Again-1
}

// copyOfSender is one with batches of its own.
func copyOfSender(s api.Sender) api.Sender {
	s.Queue = copied(s.Queue, copyOfBatch)
	return s
}

// changedSender is what becomes of a sender by what is done to it.
func changedSender(s api.Sender, done func(s *api.Sender) api.Errno) (api.Sender, api.Errno) {
	return changed(s, CheckSender, copyOfSender, done)
}

// put has a batch stand at the Queue's end.
func put(s *api.Sender, b api.Batch) api.Errno {
	if s.Ended {
		return api.ErrEnded
	}
	if len(s.Queue) == api.MaxHold || wanted(*s) > api.MaxSeq {
		return api.ErrFull
	}
	s.Queue = append(s.Queue, copyOfBatch(b))
	s.Ended = b.End
	return api.OK
}

// Put: P22.3.
func Put(s api.Sender, rows []api.Row) (api.Sender, api.Errno) {
	return changedSender(s, func(s *api.Sender) api.Errno {
		if !areRows(rows) {
			return api.ErrBatch
		}
		return put(s, api.Batch{Rows: rows})
	})
}

// Close: P22.3.
func Close(s api.Sender) (api.Sender, api.Errno) {
	return changedSender(s, func(s *api.Sender) api.Errno {
		return put(s, api.Batch{End: true, Count: wanted(*s) - 1})
	})
}

// due goes over what a tick of the sender sends: the batches, by their numbers.
func due(s api.Sender) iter.Seq2[uint64, api.Batch] {
	return func(yield func(uint64, api.Batch) bool) {
		for k, b := range s.Queue {
			number := s.Base + uint64(k)
			sent := number <= s.Sent && !again(s)
			if number <= s.Limit && !sent && !yield(number, b) {
				return
			}
		}
	}
}

// Tick: P22.4.
func Tick(s api.Sender) (api.Sender, []api.Packet, api.Errno) {
	var packets []api.Packet
	after, e := changedSender(s, func(s *api.Sender) api.Errno {
		was := *s
		for number, b := range due(was) {
			packets = append(packets, api.Packet{Kind: api.PkData, Session: s.Session, Seq: number, Batch: copyOfBatch(b)})
			s.Sent = max(s.Sent, number)
		}
		s.Timer++
		if again(was) || !underWay(was) {
			s.Timer = 0
		}
		return api.OK
	})
	return after, packets, e
}

// acknowledges tells whether a packet says something to a sender.
func acknowledges(p api.Packet, s api.Sender) bool {
	return CheckPacket(p) == api.OK && p.Kind == api.PkAck && p.Session == s.Session && within(p.Seq, s.Base, min(s.Sent+1, api.MaxSeq))
}

// Acked: P22.4.
func Acked(s api.Sender, p api.Packet) (api.Sender, api.Errno) {
	return changedSender(s, func(s *api.Sender) api.Errno {
		if !acknowledges(p, *s) {
			return api.OK
		}
		heard := p.Seq - s.Base
		s.Queue = slices.Delete(s.Queue, 0, int(heard))
		s.Base = p.Seq
		s.Limit = max(s.Limit, p.Limit)
		if heard > 0 || !underWay(*s) {
			s.Timer = 0
		}
		return api.OK
	})
}
