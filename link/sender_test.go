package link_test

import (
	"math"
	"slices"
	"testing"

	"bowsprit/api"
)

// bases are numbers of first batches, small ones and such near the greatest one.
func bases() []uint64 {
	return []uint64{1, 2, 3, 9, 1 << 32, api.MaxSeq - 9, api.MaxSeq - 8, api.MaxSeq - 7, api.MaxSeq - 1, api.MaxSeq}
}

// P22.1: sessions of senders.
func TestSessionOfSender(t *testing.T) {
	for session, may := range sessions() {
		for _, s := range []api.Sender{sends(1, 0), sends(5, 3)} {
			s.Session = session
			isSender(t, may, s)
		}
	}
	isSender(t, false, api.Sender{})
}

// P22.1: Base, and how many batches the Queue has: none, up to MaxHold, one more; the last one's number up to MaxSeq, one more.
func TestBaseAndQueue(t *testing.T) {
	for _, base := range bases() {
		for count := range api.MaxHold + 3 {
			may := count <= api.MaxHold && base+uint64(count) <= api.MaxSeq+1
			isSender(t, may, sends(base, count))
			s := sends(base, count)
			s.Queue, s.Ended = queue(base, count, true), true
			isSender(t, may, s)
		}
	}
	for _, base := range append(far(), 0, api.MaxSeq+1) {
		for _, count := range []int{0, 1, 2, api.MaxHold} {
			isSender(t, false, sends(base, count))
			isSender(t, false, changing(sends(base, count), func(s *api.Sender) { s.Sent, s.Limit = 0, 0 }))
		}
	}
	isSender(t, false, api.Sender{Session: own, Base: 1, Queue: make([]api.Batch, 1<<16)})
}

// P22.1: a batch that may not be, at each place: such as none may be, and an end of another place.
func TestBatchesOfQueue(t *testing.T) {
	wrong := []api.Batch{{}, {Count: 1}, {Rows: list("1"), Count: 1}, {Rows: list("1 / 2 / 3 / 4 / 5")}, {Rows: wrongRows()[:1]}, {Rows: list("1"), End: true}, end(math.MaxUint64)}
	for _, base := range []uint64{1, 4, api.MaxSeq - 7} {
		for count := 1; count <= api.MaxHold; count++ {
			for at := range count {
				for _, b := range append(wrong, end(base+uint64(at)), end(base+uint64(at)-2)) {
					for _, ended := range []bool{false, true} {
						isSender(t, false, changing(sends(base, count), func(s *api.Sender) { s.Queue[at], s.Ended = b, ended }))
					}
				}
			}
		}
	}
}

// P22.1: an end at each place: at the last one just if Ended, at none else.
func TestEndOfQueue(t *testing.T) {
	for count := 1; count <= api.MaxHold; count++ {
		for at := range count {
			s := changing(sends(4, count), func(s *api.Sender) { s.Queue[at] = endOf(4 + uint64(at)) })
			isSender(t, false, s)
			s.Ended = true
			isSender(t, at == count-1, s)
			s.Queue[count-1] = endOf(4 + uint64(count) - 1) // a second one, or the same
			isSender(t, at == count-1, s)
		}
		isSender(t, true, sends(4, count))
		isSender(t, true, changing(sends(4, count), func(s *api.Sender) { s.Ended = true })) // no end in the Queue
	}
	isSender(t, true, changing(sends(4, 0), func(s *api.Sender) { s.Ended = true }))
	isSender(t, true, changing(sends(1, 0), func(s *api.Sender) { s.Ended = true }))
}

// P22.1: Sent from two less than Base on, up to one more than the last number; and Limit from Sent less 1 on.
func TestSentAndLimit(t *testing.T) {
	for _, base := range bases() {
		for count := range api.MaxHold + 1 {
			last := base + uint64(count) - 1
			if last > api.MaxSeq {
				continue
			}
			numbers := []uint64{base - 2, base - 1, base, last, last + 1, last + 2, 0, math.MaxUint64}
			for _, sent := range numbers {
				may := sent >= base-1 && sent <= last
				for _, limit := range append(numbers, sent-1, sent, sent+1, api.MaxSeq-1, api.MaxSeq, api.MaxSeq+1) {
					isSender(t, may && limit >= sent && limit <= api.MaxSeq, changing(sends(base, count), func(s *api.Sender) { s.Sent, s.Limit = sent, limit }))
				}
			}
		}
	}
	for _, limit := range far() {
		isSender(t, false, changing(sends(3, 2), func(s *api.Sender) { s.Limit = limit }))
	}
}

// P22.1: the Timer, with something under way, and with nothing.
func TestTimerOfSender(t *testing.T) {
	for _, timer := range []int{math.MinInt, -api.Again, -2, -1, 0, 1, api.Again - 2, api.Again - 1, api.Again, api.Again + 1, 256, 1 << 32, math.MaxInt} {
		for _, base := range []uint64{1, 5, api.MaxSeq - 3} {
			for count := range 4 {
				for sent := range uint64(count + 1) {
					may := timer == 0 || sent > 0 && timer > 0 && timer < api.Again
					isSender(t, may, changing(sends(base, count), func(s *api.Sender) { s.Sent, s.Timer = base-1+sent, timer }))
				}
			}
		}
	}
}

// fewSenders are all that may be of a few numbers: each count of batches up to MaxHold, each end, each Sent, Limits about it, each Timer.
func fewSenders() (l []api.Sender) {
	for _, base := range []uint64{1, 2, 6, api.MaxSeq - 8, api.MaxSeq - 2, api.MaxSeq} {
		for count := range api.MaxHold + 1 {
			for kind := range 3 {
				s := sends(base, count)
				s.Ended = kind > 0
				s.Queue = queue(base, count, kind == 2)
				for s.Sent = base - 1; s.Sent < base+uint64(count); s.Sent++ {
					limits := []uint64{s.Sent, s.Sent + 1, s.Sent + 2, base + uint64(count) - 2, base + uint64(count), api.MaxSeq}
					slices.Sort(limits)
					for _, s.Limit = range slices.Compact(limits) {
						for s.Timer = range api.Again {
							if senderByRule(s) == api.OK {
								l = append(l, s)
							}
						}
					}
				}
			}
		}
	}
	return l
}

// P22.1: all of a few numbers, and each of them with one thing changed.
func TestSendersByRule(t *testing.T) {
	deeds := []func(s *api.Sender){
		func(s *api.Sender) {}, func(s *api.Sender) { s.Base++ }, func(s *api.Sender) { s.Base-- }, func(s *api.Sender) { s.Sent++ }, func(s *api.Sender) { s.Sent-- },
		func(s *api.Sender) { s.Limit++ }, func(s *api.Sender) { s.Limit-- }, func(s *api.Sender) { s.Timer++ }, func(s *api.Sender) { s.Timer-- },
		func(s *api.Sender) { s.Ended = !s.Ended }, func(s *api.Sender) { s.Queue = append(s.Queue[:len(s.Queue):len(s.Queue)], of(1)) }, func(s *api.Sender) { s.Queue = s.Queue[:max(len(s.Queue)-1, 0)] },
	}
	may := 0
	for _, s := range fewSenders() {
		for _, deed := range deeds {
			x := s
			deed(&x)
			e := senderByRule(x)
			isSender(t, e == api.OK, x)
			if e == api.OK {
				may++
			}
		}
	}
	if all := len(fewSenders()); all < 3000 || may < 5*all || may > 9*all {
		t.Error(all, may)
	}
}
