package link_test

import (
	"math"
	"testing"

	"bowsprit/api"
	"bowsprit/link"
)

// P22.2: Open of each session.
func TestOpen(t *testing.T) {
	for session, may := range sessions() {
		want, err := api.Sender{Session: session, Base: 1}, api.OK
		if !may {
			want, err = api.Sender{}, api.ErrArg
		}
		if got, e := link.Open(session); e != err || !same(got, want) {
			t.Errorf("Open(%v): %v, %v, not %v, %v", session, got, e, want, err)
		}
		isSender(t, may, want)
	}
}

// P22.2: Listen of each session, and of each room.
func TestListen(t *testing.T) {
	for session, may := range sessions() {
		for _, room := range []int{math.MinInt, -256, -1, 0, 1, 2, 3, api.MaxHold - 1, api.MaxHold, api.MaxHold + 1, 256 + 1, 1<<32 + 1, math.MaxInt} {
			want, err := api.Receiver{Session: session, Room: room, Next: 1}, api.OK
			if !may || room < 1 || room > api.MaxHold {
				want, err = api.Receiver{}, api.ErrArg
			}
			if got, e := link.Listen(session, room); e != err || !same(got, want) {
				t.Errorf("Listen(%v, %v): %v, %v, not %v, %v", session, room, got, e, want, err)
			}
			isReceiver(t, err == api.OK, want)
		}
	}
}

// with is a sender with one more batch at its Queue's end.
func with(s api.Sender, b api.Batch) api.Sender {
	return changing(s, func(s *api.Sender) {
		s.Queue = append(s.Queue, b)
		s.Ended = b.End
	})
}

// P22.3: batches of 1 to MaxBatch rows, and the end, behind however many; what else a sender has stays.
func TestPutAndClose(t *testing.T) {
	for _, base := range []uint64{1, 2, 9, api.MaxSeq - 8} {
		for count := range api.MaxHold {
			s := changing(sends(base, count), func(s *api.Sender) {
				s.Sent, s.Limit = base-1+uint64(count/2), base+uint64(count)
				if s.Sent >= base {
					s.Timer = count % api.Again
				}
			})
			isSender(t, true, s)
			for _, b := range []api.Batch{rows("1"), rows("1 / 2"), rows(". / . / 'a'"), rows("1 / 2 / 1 / 2")} {
				isSender(t, true, puts(t, s, b.Rows, with(s, b)))
			}
			for _, r := range goodRows() {
				puts(t, s, []api.Row{r}, with(s, api.Batch{Rows: []api.Row{r}}))
			}
			isSender(t, true, closes(t, s, with(s, end(base+uint64(count)-1))))
		}
	}
}

// P22.3: from Open on, batch by batch, till there is no room.
func TestPutTillFull(t *testing.T) {
	for count := range api.MaxHold {
		s, _ := link.Open(own)
		want := api.Sender{Session: own, Base: 1}
		for n := uint64(1); n <= uint64(count); n++ {
			want = with(want, of(n))
			s = puts(t, s, of(n).Rows, want)
		}
		s = closes(t, s, with(want, end(uint64(count))))
		refusesPut(t, s, list("1"), api.ErrEnded)
		refusesClose(t, s, api.ErrEnded)
	}
	s := sends(1, 0)
	for n := uint64(1); n <= api.MaxHold; n++ {
		s = puts(t, s, of(n).Rows, with(s, of(n)))
	}
	refusesPut(t, s, list("1"), api.ErrFull)
	refusesClose(t, s, api.ErrFull)
}

// noRows are what no batch may have as its rows.
func noRows() [][]api.Row {
	l := [][]api.Row{nil, {}, list("1 / 2 / 3 / 4 / 5"), make([]api.Row, 1<<16)}
	for _, r := range wrongRows() {
		l = append(l, []api.Row{r}, append(list("1"), r), append([]api.Row{r}, list("1 / 2 / 3")...), append(list("1 / 2 / 3"), r), append(list("1 / 2 / 3 / 4"), r))
	}
	return l
}

// P22.3: rows that may not be go ahead of an end that was put, that ahead of no room.
func TestPutErrors(t *testing.T) {
	full := sends(4, api.MaxHold)
	ended := changing(sends(4, 3), func(s *api.Sender) { s.Ended = true })
	both := changing(full, func(s *api.Sender) { s.Ended = true })
	closed := changing(full, func(s *api.Sender) { s.Queue, s.Ended = queue(4, api.MaxHold, true), true })
	last := changing(sends(api.MaxSeq-2, 3), func(s *api.Sender) { s.Ended = true })
	for _, s := range []api.Sender{sends(4, 3), full, ended, both, closed, last, sends(api.MaxSeq, 1)} {
		isSender(t, true, s)
		for _, l := range noRows() {
			refusesPut(t, s, l, api.ErrBatch)
		}
	}
	for _, s := range []api.Sender{ended, both, closed, last, changing(sends(4, 0), func(s *api.Sender) { s.Ended = true })} {
		refusesPut(t, s, list("1"), api.ErrEnded)
		refusesClose(t, s, api.ErrEnded)
	}
	refusesPut(t, full, list("1"), api.ErrFull)
	refusesClose(t, full, api.ErrFull)
}

// P22.3: at MaxSeq: the batch of that number, the end of that number, and none above.
func TestPutAtMaxSeq(t *testing.T) {
	for count := range api.MaxHold {
		base := api.MaxSeq - uint64(count)
		s := sends(base, count)
		isSender(t, true, puts(t, s, list("1"), with(s, rows("1"))))
		isSender(t, true, closes(t, s, with(s, end(api.MaxSeq-1))))
		s = sends(base, count+1)
		isSender(t, true, s)
		refusesPut(t, s, list("1"), api.ErrFull)
		refusesClose(t, s, api.ErrFull)
		s.Ended = true
		refusesPut(t, s, list("1"), api.ErrEnded)
		refusesClose(t, s, api.ErrEnded)
	}
}

// P22.3: all senders of a few numbers.
func TestPutByRule(t *testing.T) {
	seen := map[api.Errno]int{}
	for _, s := range fewSenders() {
		want := api.OK
		switch n := s.Base + uint64(len(s.Queue)); {
		case s.Ended:
			want = api.ErrEnded
		case len(s.Queue) == api.MaxHold, n > api.MaxSeq:
			want = api.ErrFull
		default:
			puts(t, s, of(n).Rows, with(s, of(n)))
			closes(t, s, with(s, endOf(n)))
		}
		if seen[want]++; want != api.OK {
			refusesPut(t, s, list("1"), want)
			refusesClose(t, s, want)
		}
	}
	if len(seen) != 3 || seen[api.ErrFull] < 100 {
		t.Error(seen)
	}
}
