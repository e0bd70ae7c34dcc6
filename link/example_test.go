package link_test

import (
	"slices"
	"testing"

	"bowsprit/api"
	"bowsprit/link"
)

// begin is both ends of a stream.
func begin(t *testing.T, session uint32, room int) (api.Sender, api.Receiver) {
	t.Helper()
	s, e := link.Open(session)
	r, f := link.Listen(session, room)
	if e != api.OK || f != api.OK {
		t.Fatal(session, room, e, f)
	}
	return s, r
}

// P22.2 to P22.5: the chapter's examples, one behind the other.
func TestChapter(t *testing.T) {
	s, r := begin(t, 7, 2)
	x := list("5")
	s = puts(t, s, x, with(s, rows("5")))
	s = puts(t, s, x, with(s, rows("5")))
	s = closes(t, s, with(s, end(2)))
	s = ticks(t, s, 0, 0)
	refusesPut(t, s, x, api.ErrEnded)
	saysAck(t, r, 1, 2)
	s = acks(t, s, ack(1, 2), changing(s, func(s *api.Sender) { s.Limit = 2 }))
	s = ticks(t, s, 2, 0, 1, 2)
	r = hearing(t, r, data(2, rows("5")), changing(r, func(r *api.Receiver) { r.Ahead = []api.Held{{Seq: 2, Batch: rows("5")}} }))
	deaf(t, r, data(2, rows("5")))
	both := api.Receiver{Session: 7, Room: 2, Next: 3, Buffer: []api.Batch{rows("5"), rows("5")}}
	r = hearing(t, r, data(1, rows("5")), both)
	saysAck(t, r, 3, 2)
	r = takes(t, r, rows("5"))
	saysAck(t, r, 3, 3)
	s = ticks(t, s, 2, 1)
	s = ticks(t, s, 2, 2)
	ticks(t, s, 2, 0, 1, 2)
	if _, e := link.Open(0); e != api.ErrArg {
		t.Error(e)
	}
	_, r = begin(t, 7, 2)
	takesNothing(t, r)
	s, _ = begin(t, 7, 2)
	refusesPut(t, s, nil, api.ErrBatch)
}

// stream is so many batches of rows, and the end.
func stream(count uint64) []api.Batch {
	return queue(1, int(count)+1, true)
}

// turn is one round in which nothing is lost: all that can be is put, sent, heard, taken and acknowledged (ahead of the taking, if it is early). It tells what is left to be put, and what was taken.
func turn(t *testing.T, s *api.Sender, r *api.Receiver, left []api.Batch, early bool) (rest, taken []api.Batch) {
	t.Helper()
	left = putAll(t, s, left)
	var packets []api.Packet
	var e api.Errno
	*s, packets, e = link.Tick(*s)
	must(t, e)
	for _, p := range packets {
		*r, e = link.Hear(*r, p)
		must(t, e)
	}
	if !early {
		taken = takeAll(t, r)
	}
	p, e := link.Ack(*r)
	must(t, e)
	*s, e = link.Acked(*s, p)
	must(t, e)
	if early {
		taken = takeAll(t, r)
	}
	return left, taken
}

func must(t *testing.T, e api.Errno) {
	t.Helper()
	if e != api.OK {
		t.Fatal(e)
	}
}

// putOne puts a batch, of rows or the end.
func putOne(s api.Sender, b api.Batch) (api.Sender, api.Errno) {
	if b.End {
		return link.Close(s)
	}
	return link.Put(s, b.Rows)
}

// putAll puts what there is room for, and tells what is left.
func putAll(t *testing.T, s *api.Sender, left []api.Batch) []api.Batch {
	t.Helper()
	for len(left) > 0 && len(s.Queue) < api.MaxHold {
		var e api.Errno
		*s, e = putOne(*s, left[0])
		must(t, e)
		left = left[1:]
	}
	return left
}

// takeAll takes what there is.
func takeAll(t *testing.T, r *api.Receiver) (taken []api.Batch) {
	t.Helper()
	for len(r.Buffer) > 0 {
		var b api.Batch
		var e api.Errno
		*r, b, e = link.Take(*r)
		must(t, e)
		taken = append(taken, b)
	}
	return taken
}

// P22.2 to P22.5: whole streams when nothing is lost, of each length, with each room: what is taken is what was put; nothing is left.
func TestWholeStreams(t *testing.T) {
	for room := 1; room <= api.MaxHold; room++ {
		for _, count := range slices.Concat(upTo(0, 20), []uint64{50}) {
			s, r := begin(t, own, room)
			left := stream(count)
			var got []api.Batch
			for range 2 + int(count) {
				var taken []api.Batch
				left, taken = turn(t, &s, &r, left, false)
				got = append(got, taken...)
			}
			if !same(got, stream(count)) || !r.Over || len(s.Queue) > 0 || !s.Ended || r.Next != count+2 || s.Base != count+2 {
				t.Errorf("%v in %v: %v, %v, %v", count, room, got, s, r)
			}
		}
	}
}

// P22.2 to P22.5: how many rounds a stream takes, when nothing is lost: one for the first ack, then as many as the room fits into.
func TestRoundsOfWholeStreams(t *testing.T) {
	for room := uint64(1); room <= api.MaxHold; room++ {
		for count := range uint64(20) {
			s, r := begin(t, own, int(room))
			left := stream(count)
			rounds := uint64(0)
			for ; !r.Over; rounds++ {
				if rounds > 100 {
					t.Fatal(s, r)
				}
				left, _ = turn(t, &s, &r, left, false)
			}
			if rounds != 1+(count+room)/room {
				t.Errorf("%v in %v: %v rounds", count, room, rounds)
			}
		}
	}
}
