package link_test

import (
	"math"
	"testing"

	"bowsprit/api"
	"bowsprit/link"
)

// P22.4: a tick of nothing in the Queue, and of no room: nothing is sent, and the Timer stands.
func TestTickOfNothing(t *testing.T) {
	for _, base := range bases() {
		for _, limit := range []uint64{base - 1, base, api.MaxSeq} {
			for _, ended := range []bool{false, true} {
				s := changing(sends(base, 0), func(s *api.Sender) { s.Limit, s.Ended = limit, ended })
				ticks(t, s, base-1, 0)
			}
		}
	}
	for count := 1; count <= api.MaxHold; count++ {
		for _, ends := range []bool{false, true} {
			s := changing(sends(5, count), func(s *api.Sender) { s.Limit, s.Queue, s.Ended = 4, queue(5, count, ends), ends })
			ticks(t, ticks(t, s, 4, 0), 4, 0)
		}
	}
}

// upTo are the numbers from one to another one.
func upTo(from, to uint64) (l []uint64) {
	for n := from; n <= to; n++ {
		l = append(l, n)
	}
	return l
}

// P22.4: room for some, for all, for more than there are; the first tick sends, the next ones wait, the third one behind it sends again.
func TestTickSends(t *testing.T) {
	for count := uint64(1); count <= api.MaxHold; count++ {
		for room := uint64(1); room <= api.MaxHold+2; room++ {
			for _, ends := range []bool{false, true} {
				s := changing(sends(5, int(count)), func(s *api.Sender) { s.Limit, s.Queue, s.Ended = 4+room, queue(5, int(count), ends), ends })
				last := 4 + min(count, room)
				for range 3 {
					s = ticks(t, s, last, 0, upTo(5, last)...)
					s = ticks(t, s, last, 1)
					s = ticks(t, s, last, 2)
				}
			}
		}
	}
}

// P22.4: something is under way, and there is room for more, or not: just what was not sent goes, at each Timer but the last one; then all.
func TestTickBehindSome(t *testing.T) {
	const base = 5
	for sent := uint64(base); sent <= base+3; sent++ {
		for limit := sent; limit <= base+5; limit++ {
			for timer := range api.Again {
				s := changing(sends(base, 4), func(s *api.Sender) { s.Sent, s.Limit, s.Timer = sent, limit, timer })
				last := min(limit, base+3)
				if timer == api.Again-1 {
					ticks(t, s, last, 0, upTo(base, last)...)
				} else {
					ticks(t, s, last, timer+1, upTo(sent+1, last)...)
				}
			}
		}
	}
}

// P22.4: at the greatest number.
func TestTickAtMaxSeq(t *testing.T) {
	s := changing(sends(api.MaxSeq, 1), func(s *api.Sender) { s.Queue[0], s.Ended = end(api.MaxSeq-1), true })
	s = ticks(t, s, api.MaxSeq, 0, api.MaxSeq)
	s = ticks(t, s, api.MaxSeq, 1)
	s = ticks(t, s, api.MaxSeq, 2)
	ticks(t, s, api.MaxSeq, 0, api.MaxSeq)
	s = changing(sends(api.MaxSeq-7, 8), func(s *api.Sender) { s.Limit = api.MaxSeq - 1 })
	ticks(t, s, api.MaxSeq-1, 0, upTo(api.MaxSeq-7, api.MaxSeq-1)...)
}

// P22.4: ticks of all senders of a few numbers.
func TestTickByRule(t *testing.T) {
	again, some := 0, 0
	for _, s := range fewSenders() {
		want, packets := tickByRule(s)
		got, l, e := link.Tick(s)
		if e != api.OK || !same(got, want) || !same(l, packets) {
			t.Errorf("Tick(%v): %v, %v, %v, not %v, %v", s, got, l, e, want, packets)
		}
		isSender(t, true, got)
		for _, p := range l {
			isPacket(t, true, p)
		}
		if len(l) > 0 && l[0].Seq <= s.Sent {
			again++
		} else if len(l) > 0 {
			some++
		}
	}
	if again < 500 || some < 500 {
		t.Error(again, some)
	}
}

// P22.4: of each Seq from below Base to above Sent and 1.
func TestAckedOfEachSeq(t *testing.T) {
	const base = 5
	for count := range uint64(api.MaxHold + 1) {
		for sent := uint64(base - 1); sent < base+count; sent++ {
			for timer := range api.Again {
				if timer > 0 && sent < base {
					continue
				}
				s := changing(sends(base, int(count)), func(s *api.Sender) { s.Sent, s.Limit, s.Timer = sent, base+9, timer })
				for seq := uint64(1); seq < base+14; seq++ {
					want := s
					if seq >= base && seq <= sent+1 {
						want.Base, want.Queue = seq, s.Queue[seq-base:]
					}
					if want.Base > base {
						want.Timer = 0
					}
					acks(t, s, ack(seq, seq-1), want)
					acks(t, s, ack(seq, base+9), want)
					if seq >= base && seq <= sent+1 {
						want.Limit = base + 20
					}
					acks(t, s, ack(seq, base+20), want)
				}
			}
		}
	}
}

// P22.4: nothing was sent, and more room is heard of; one with the same Seq leaves the Timer, if something is under way.
func TestAckedOfBase(t *testing.T) {
	s := changing(sends(1, 3), func(s *api.Sender) { s.Limit = 0 })
	s = acks(t, s, ack(1, 2), changing(s, func(s *api.Sender) { s.Limit = 2 }))
	s = ticks(t, s, 2, 0, 1, 2)
	s = ticks(t, s, 2, 1)
	s = acks(t, s, ack(1, 2), s)
	s = acks(t, s, ack(1, 3), changing(s, func(s *api.Sender) { s.Limit = 3 }))
	s = ticks(t, s, 3, 2, 3)
	s = acks(t, s, ack(2, 3), changing(s, func(s *api.Sender) { s.Base, s.Queue, s.Timer = 2, s.Queue[1:], 0 }))
	s = ticks(t, s, 3, 1)
	s = acks(t, s, ack(4, 3), changing(s, func(s *api.Sender) { s.Base, s.Queue, s.Timer = 4, nil, 0 }))
	ticks(t, s, 3, 0)
}

// P22.4: a limit that is less than before, as much, more.
func TestAckedLimit(t *testing.T) {
	s := changing(sends(5, 4), func(s *api.Sender) { s.Sent, s.Limit, s.Timer = 6, 9, 1 })
	for limit := uint64(4); limit < 14; limit++ {
		acks(t, s, ack(5, limit), changing(s, func(s *api.Sender) { s.Limit = max(9, limit) }))
		if limit >= 6 {
			acks(t, s, ack(7, limit), changing(s, func(s *api.Sender) { s.Base, s.Queue, s.Limit, s.Timer = 7, s.Queue[2:], max(9, limit), 0 }))
		}
	}
	acks(t, s, ack(6, api.MaxSeq), changing(s, func(s *api.Sender) { s.Base, s.Queue, s.Limit, s.Timer = 6, s.Queue[1:], api.MaxSeq, 0 }))
}

// noAcks are packets which a sender of the session, with Base 5 and up to 8 sent, takes no heed of.
func noAcks() []api.Packet {
	l := []api.Packet{{}, data(5, of(5)), data(6, of(6)), data(7, end(6)), ack(4, 9), ack(10, 12), ack(0, 5), ack(6, 4), ack(6, api.MaxSeq+1), ack(6, math.MaxUint64)}
	good := ack(6, 9)
	for _, deed := range []func(p *api.Packet){
		func(p *api.Packet) { p.Session = own + 1 }, func(p *api.Packet) { p.Session = own - 1 }, func(p *api.Packet) { p.Session = 0 }, func(p *api.Packet) { p.Session += 1 << 31 },
		func(p *api.Packet) { p.Kind = 0 }, func(p *api.Packet) { p.Kind = 3 }, func(p *api.Packet) { p.Kind = -2 }, func(p *api.Packet) { p.Kind = api.PkData },
		func(p *api.Packet) { p.Batch = of(6) }, func(p *api.Packet) { p.Batch.Count = 5 }, func(p *api.Packet) { p.Batch.End = true }, func(p *api.Packet) { p.Batch = end(5) },
	} {
		l = append(l, changing(good, deed))
	}
	return l
}

// P22.4: any other packet changes nothing: of another session, of another Kind, such as may not be.
func TestAckedOfOthers(t *testing.T) {
	for timer := range api.Again {
		s := changing(sends(5, 6), func(s *api.Sender) { s.Sent, s.Limit, s.Timer = 8, 9, timer })
		for _, p := range noAcks() {
			acks(t, s, p, s)
		}
		acks(t, s, ack(6, 9), changing(s, func(s *api.Sender) { s.Base, s.Queue, s.Timer = 6, s.Queue[1:], 0 }))
	}
}

// P22.4: at the greatest number: that one is never behind.
func TestAckedAtMaxSeq(t *testing.T) {
	s := changing(sends(api.MaxSeq-2, 3), func(s *api.Sender) { s.Sent, s.Timer = api.MaxSeq, 2 })
	acks(t, s, ack(api.MaxSeq+1, api.MaxSeq), s)
	s = acks(t, s, ack(api.MaxSeq, api.MaxSeq), changing(s, func(s *api.Sender) { s.Base, s.Queue, s.Timer = api.MaxSeq, s.Queue[2:], 0 }))
	acks(t, s, ack(api.MaxSeq+1, api.MaxSeq), s)
	acks(t, s, ack(api.MaxSeq, api.MaxSeq-1), s)
	isSender(t, true, s)
}

// P22.4: acks of all senders of a few numbers.
func TestAckedByRule(t *testing.T) {
	heard := 0
	for _, s := range fewSenders() {
		var packets []api.Packet
		for seq := s.Base - 2; seq <= s.Base+uint64(len(s.Queue))+2; seq++ {
			packets = append(packets, ack(seq, seq-1), ack(seq, s.Limit+1), ack(seq, min(s.Sent+3, api.MaxSeq)))
		}
		for _, p := range append(packets, data(s.Base, of(s.Base)), ack(s.Base, api.MaxSeq)) {
			want := ackedByRule(s, p)
			isSender(t, true, acks(t, s, p, want))
			if !same(s, want) {
				heard++
			}
		}
	}
	if heard < 10000 {
		t.Error(heard)
	}
}
