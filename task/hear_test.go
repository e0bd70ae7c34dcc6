package task_test

import (
	"math"
	"slices"
	"testing"

	"bowsprit/api"
	"bowsprit/frame"
)

// deaf holds that messages change nothing.
func deaf(t *testing.T, x api.Task, msgs ...api.Msg) {
	t.Helper()
	for _, m := range msgs {
		hears(t, x, m, x)
	}
}

// withIn is a task of which one stream that comes is another one; withOut is one of which a stream that goes out is.
func withIn(x api.Task, k int, in api.In) api.Task {
	return changing(x, func(x *api.Task) { x.Ins[k] = in })
}

func withOut(x api.Task, k int, out api.Out) api.Task {
	return changing(x, func(x *api.Task) { x.Outs[k] = out })
}

// P25.3: data in order, twice, late, with a gap, behind the end: what can be is taken at once, and stands behind what was.
func TestData(t *testing.T) {
	x := gathers() // of 2 from 0 nothing came; of 0 from 3 the numbers 5, 7 are ahead of 3
	x = hears(t, x, data(2, 0, 1, rowsOf("8 / 6")), withIn(x, 2, comes(2, 0, waits(2), "8 / 6")))
	deaf(t, x, data(2, 0, 1, rowsOf("8 / 6")), data(2, 0, 1, rowsOf("9")), data(2, 0, 1, end(0)))
	x = hears(t, x, data(2, 0, 4, batch(4)), withIn(x, 2, comes(2, 0, waits(2, 4), "8 / 6")))
	x = hears(t, x, data(2, 0, 3, batch(3)), withIn(x, 2, comes(2, 0, waits(2, 3, 4), "8 / 6")))
	deaf(t, x, data(2, 0, 3, batch(3)), data(2, 0, 4, batch(9)), data(2, 0, 10, batch(10)), data(2, 0, 3, end(2)))
	ahead := waits(2, 3, 4, 9)
	x = hears(t, x, data(2, 0, 9, end(8)), withIn(x, 2, comes(2, 0, changing(ahead, func(r *api.Receiver) { r.Ahead[2].Batch = end(8) }), "8 / 6")))
	deaf(t, x, data(2, 0, 8, end(7)), data(2, 0, 10, batch(10)), data(2, 0, 9, batch(9)))
	ahead = changing(waits(5, 9), func(r *api.Receiver) { r.Ahead[0].Batch = end(8) })
	x = hears(t, x, data(2, 0, 2, rowsOf("1 / 1 / 1 / 0")), withIn(x, 2, comes(2, 0, ahead, "8 / 6 / 1 / 1 / 1 / 0 / 3 / 4")))
	for n := uint64(5); n < 8; n++ {
		rows := append(slices.Clone(x.Ins[2].Rows), list("0 / 1")...)
		ahead.Next = n + 1
		x = hears(t, x, data(2, 0, n, rowsOf("0 / 1")), withIn(x, 2, api.In{Frag: 2, Receiver: ahead, Rows: rows}))
	}
	rows := append(slices.Clone(x.Ins[2].Rows), list("2")...)
	x = hears(t, x, data(2, 0, 8, rowsOf("2")), withIn(x, 2, api.In{Frag: 2, Receiver: over(8), Rows: rows}))
	deaf(t, x, data(2, 0, 8, rowsOf("2")), data(2, 0, 9, end(8)), data(2, 0, 10, batch(10)), data(2, 0, 1, rowsOf("8 / 6")))
	x = hears(t, x, data(0, 3, 3, rowsOf("3")), withIn(x, 1, comes(0, 3, waits(4, 5, 7), "5 / 3")))
	x = hears(t, x, data(0, 3, 4, rowsOf("4")), withIn(x, 1, comes(0, 3, waits(6, 7), "5 / 3 / 4 / 5")))
	x = hears(t, x, data(0, 3, 8, end(7)), withIn(x, 1, changing(comes(0, 3, waits(6, 7, 8), "5 / 3 / 4 / 5"), func(in *api.In) { in.Receiver.Ahead[1].Batch = end(7) })))
	hears(t, x, data(0, 3, 6, rowsOf("6")), withIn(x, 1, comes(0, 3, over(7), "5 / 3 / 4 / 5 / 6 / 7")))
}

// P25.3: the end alone; the window, just and by one more; the greatest numbers.
func TestDataAtEdges(t *testing.T) {
	x := gathers()
	hears(t, x, data(2, 0, 1, end(0)), withIn(x, 2, comes(2, 0, over(0), "")))
	hears(t, x, data(2, 0, 8, batch(8)), withIn(x, 2, comes(2, 0, waits(1, 8), "")))
	deaf(t, x, data(2, 0, 9, batch(9)), data(2, 0, api.MaxSeq, batch(9)))
	x = withIn(x, 2, comes(2, 0, waits(api.MaxSeq-1), "1"))
	x = hears(t, x, data(2, 0, api.MaxSeq, end(api.MaxSeq-1)), withIn(x, 2, changing(comes(2, 0, waits(api.MaxSeq-1, api.MaxSeq), "1"), func(in *api.In) { in.Receiver.Ahead[0].Batch = end(api.MaxSeq - 1) })))
	x = hears(t, x, data(2, 0, api.MaxSeq-1, rowsOf("2")), withIn(x, 2, comes(2, 0, over(api.MaxSeq-1), "1 / 2")))
	deaf(t, x, data(2, 0, api.MaxSeq, end(api.MaxSeq-1)), data(2, 0, api.MaxSeq, batch(5)))
	x = withIn(x, 2, comes(2, 0, waits(api.MaxSeq), "1"))
	x = hears(t, x, data(2, 0, api.MaxSeq, rowsOf("2")), withIn(x, 2, comes(2, 0, waits(api.MaxSeq+1), "1 / 2")))
	deaf(t, x, data(2, 0, api.MaxSeq, rowsOf("2")), data(2, 0, api.MaxSeq+1, rowsOf("2")))
}

// P25.3: rows that make just as many as a list has, and one more: those of the batch that would are dropped, all of them; those of a later one may still have room.
func TestDataOfTooMany(t *testing.T) {
	batches := []api.Batch{rowsOf("1"), rowsOf("1 / 2"), rowsOf("1 / 2 / 3"), rowsOf("1 / 2 / 3 / 4")}
	for had := api.MaxList - 5; had <= api.MaxList; had++ {
		x := withIn(gathers(), 2, api.In{Frag: 2, Receiver: waits(1), Rows: ones(had)})
		for _, b := range batches {
			in := api.In{Frag: 2, Receiver: waits(2), Rows: ones(had)}
			if had+len(b.Rows) <= api.MaxList {
				in.Rows = append(in.Rows, b.Rows...)
			}
			y := hears(t, x, data(2, 0, 1, b), withIn(x, 2, in))
			in.Receiver = over(1)
			hears(t, y, data(2, 0, 2, end(1)), withIn(x, 2, in))
		}
	}
	x := withIn(gathers(), 2, api.In{Frag: 2, Receiver: waits(1), Rows: ones(api.MaxList - 3)})
	for k, b := range []api.Batch{batches[2], batches[3], batches[1], batches[0]} { // ahead of the first one, whose rows are dropped
		seq := uint64(5 - k)
		after := copyOf(x.Ins[2])
		after.Receiver.Ahead = slices.Insert(after.Receiver.Ahead, 0, api.Held{Seq: seq, Batch: b})
		x = hears(t, x, data(2, 0, seq, b), withIn(x, 2, after))
	}
	want := api.In{Frag: 2, Receiver: waits(6), Rows: append(ones(api.MaxList-3), list("1 / 1 / 2")...)}
	hears(t, x, data(2, 0, 1, batches[3]), withIn(x, 2, want)) // four are dropped, one has room, two have, four and three are dropped
}

// P25.3: the rows of a batch are just as they are, whatever their kinds and how many values they have.
func TestRowsOfData(t *testing.T) {
	x := gathers()
	for k, r := range goodRows() {
		b := api.Batch{Rows: append([]api.Row{r}, goodRows()[:k%4]...)}
		seq := x.Ins[2].Receiver.Next
		x = hears(t, x, data(2, 0, seq, b), withIn(x, 2, api.In{Frag: 2, Receiver: waits(seq + 1), Rows: append(slices.Clone(x.Ins[2].Rows), b.Rows...)}))
	}
}

// others are messages like one that changes something, with one thing changed each, so that they are another task's, or may not be.
func others(m api.Msg) (l []api.Msg) {
	for _, do := range []func(m *api.Msg){
		func(m *api.Msg) { m.Epoch++ }, func(m *api.Msg) { m.Epoch-- }, func(m *api.Msg) { m.Epoch = 0 }, func(m *api.Msg) { m.Epoch += 1 << 32 },
		func(m *api.Msg) { m.To++ }, func(m *api.Msg) { m.To-- }, func(m *api.Msg) { m.To = 0 }, func(m *api.Msg) { m.To = -1 },
		func(m *api.Msg) { m.Frag = 29 }, func(m *api.Msg) { m.Frag = 3 }, func(m *api.Msg) { m.Frag = -1 }, func(m *api.Msg) { m.Frag = api.MaxFrags },
		func(m *api.Msg) { m.From = 8 }, func(m *api.Msg) { m.From = -1 }, func(m *api.Msg) { m.From = api.MaxSites + 1 },
		func(m *api.Msg) { m.Packet.Session++ }, func(m *api.Msg) { m.Packet.Session-- }, func(m *api.Msg) { m.Packet.Session = 0 },
		func(m *api.Msg) { m.Packet.Kind = 3 - m.Packet.Kind }, func(m *api.Msg) { m.Packet.Kind = 0 }, func(m *api.Msg) { m.Packet.Seq = 0 }, func(m *api.Msg) { m.Packet.Seq = math.MaxUint64 },
		func(m *api.Msg) { m.Packet = api.Packet{} }, func(m *api.Msg) { m.Packet.Batch.Count++ }, func(m *api.Msg) { m.Packet.Batch.End = !m.Packet.Batch.End }, func(m *api.Msg) { m.Packet.Batch.Rows = []api.Row{{{Kind: 9}}} },
		func(m *api.Msg) { m.Sites = 4 }, func(m *api.Msg) { m.Err = api.ErrFault }, func(m *api.Msg) { m.Plan = planOf(onAll(api.WayGather, scanU())) }, func(m *api.Msg) { m.Plan = planOf(api.Frag{}) },
		func(m *api.Msg) { m.Packet.Batch.Rows = slices.Repeat(list("1"), api.MaxBatch+1) },
	} {
		l = append(l, changing(m, do))
	}
	for kind := -1; kind <= 9; kind++ {
		if kind != m.Kind {
			l = append(l, changing(m, func(m *api.Msg) { m.Kind = kind }), api.Msg{Kind: kind, From: m.From, To: m.To, Epoch: epoch})
		}
	}
	return l
}

// eachKind are messages of each kind but data and acks that may be, of the epoch, to the task's node.
func eachKind() []api.Msg {
	return []api.Msg{
		{Kind: api.MsgPlan, To: 2, Epoch: epoch, Sites: sites, Plan: planOf(onAll(api.WayGather, scanU()))}, {Kind: api.MsgHave, To: 2, Epoch: epoch}, {Kind: api.MsgDrop, To: 2, Epoch: epoch}, {Kind: api.MsgGone, To: 2, Epoch: epoch},
		{Kind: api.MsgFail, To: 2, Epoch: epoch, Err: api.ErrFault}, {Kind: api.MsgFail, From: 1, To: 2, Epoch: epoch, Err: api.ErrOver},
	}
}

// P25.3: any other message changes nothing: of another epoch, to another node, of another stream, of another Kind, such as may not be.
func TestOthersMessages(t *testing.T) {
	for _, m := range eachKind() {
		if e := frame.Check(m); e != api.OK {
			t.Fatal(m, e)
		}
		for _, x := range inStates() {
			deaf(t, x, m)
		}
	}
	x := gathers()
	for _, m := range []api.Msg{data(2, 0, 1, batch(1)), data(2, 0, 1, end(0)), data(0, 3, 3, batch(3)), data(0, 3, 4, batch(3))} {
		if got := asRule(t, "Hear", given{Task: x, Msg: m}); same(got.Task, x) {
			t.Errorf("%v changes nothing", m)
		}
		deaf(t, x, others(m)...)
	}
	y := withOut(sends(), 3, goes(4, ended(1, 2), "")) // there is no room left to be filled
	y.Outs[1].Sender.Sent = 9
	for _, m := range []api.Msg{ack(2, 8, 20), ack(2, 10, 20), ack(3, 6, 90)} {
		if got := asRule(t, "Hear", given{Task: y, Msg: m}); same(got.Task, y) {
			t.Errorf("%v changes nothing", m)
		}
		deaf(t, y, others(m)...)
	}
	deaf(t, x, api.Msg{})
}

// P25.3: data of a stream that is none of its own: the Frag, or the node, of another one; of those that are to go out of it; and acks of streams that come to it.
func TestNoStreams(t *testing.T) {
	x := gathers() // of 0 from 1 and from 3, of 2 from 0; to 1, 2, 3, 4
	for frag := range 6 {
		for from := range api.MaxSites + 1 {
			isIn := frag == 0 && from == 3 || frag == 2 && from == 0
			for _, m := range []api.Msg{data(frag, from, 3, batch(3)), data(frag, from, 1, batch(1)), data(frag, from, 2, end(1))} {
				got := asRule(t, "Hear", given{Task: x, Msg: m})
				if !isIn && !same(got.Task, x) {
					t.Errorf("%v changes %v", m, got.Task)
				}
			}
			deafTo := told(api.MsgAck, from, 2, frag, ackOf(1, 5))
			want := x
			if frag == 4 && (from == 1 || from == 4) {
				want = withOut(x, from-1, goes(from, fresh(5), ""))
			}
			hears(t, x, deafTo, want)
		}
	}
	y := changing(x, func(x *api.Task) { x.Outs = x.Outs[1:3] })
	for _, from := range []int{0, 1, 4, 5, 8} {
		deaf(t, y, ack(from, 1, 8))
	}
	hears(t, y, ack(3, 1, api.MaxSeq), y) // its room was as much already
}

// P25.3: while it gathers, and when it fell, an ack changes no more than a sender's room; what was never sent is not acknowledged.
func TestAcksAheadOfRows(t *testing.T) {
	for _, x := range []api.Task{gathers(), fell()} {
		hears(t, x, ack(1, 1, 8), withOut(x, 0, goes(1, fresh(8), "")))
		hears(t, x, ack(1, 1, api.MaxSeq), withOut(x, 0, goes(1, fresh(api.MaxSeq), "")))
		deaf(t, x, ack(1, 2, 8), ack(2, 1, 8), ack(2, 1, 7), ack(2, 1, 0), ack(3, 1, 9), ack(1, 1, 0), ack(4, 1, 1), ack(4, 3, 9))
	}
	for _, x := range []api.Task{done(), rooted(api.TaskDone, goes(0, acknowledged(0), ""))} {
		out := x.Outs[0]
		out.Sender.Limit = 50
		hears(t, x, ack(0, 2, 50), withOut(x, 0, out))
		deaf(t, x, ack(0, 2, 3), ack(0, 1, 50), ack(0, 3, 50))
	}
}

// sending is a task that sends on one stream, to the node 1.
func sending(s api.Sender, rest []api.Row) api.Task {
	return taskOf(both(api.WayGather), api.TaskSends, came(), []api.Out{{To: 1, Sender: s, Rest: rest}})
}

// P25.3: acks by which something is put: as much as there is room for, four rows each; the last ones may be fewer; then the end.
func TestAcksThatFill(t *testing.T) {
	full := holds(1, api.MaxHold)
	full.Sent = 8
	for _, left := range []int{1, 3, 4, 5, 8, 9, 31, 32, 33, 100} {
		for heard := uint64(0); heard <= 8; heard++ {
			x := sending(full, counted(left))
			s := full
			s.Base, s.Queue, s.Sent = 1+heard, slices.Clone(full.Queue[heard:]), 8
			rest := counted(left)
			for len(rest) > 0 && len(s.Queue) < api.MaxHold {
				n := min(4, len(rest))
				s.Queue, rest = append(s.Queue, api.Batch{Rows: rest[:n]}), rest[n:]
			}
			if len(rest) == 0 && len(s.Queue) < api.MaxHold {
				s.Queue, s.Ended = append(s.Queue, end(s.Base+uint64(len(s.Queue))-1)), true
			}
			want := sending(s, rest)
			hears(t, x, ack(1, 1+heard, api.MaxSeq), want)
			late := ack(1, 1+heard, heard)
			hears(t, x, late, want) // its room was more already
		}
	}
}

// P25.3: acks by which the end is put, by which all is done, and by which not yet.
func TestAcksThatEnd(t *testing.T) {
	s := changing(holds(5, 8), func(s *api.Sender) { s.Sent = 12 })
	x := sending(s, nil) // just the end is left
	deaf(t, x, ack(1, 5, 20), ack(1, 14, 20), ack(1, 4, 20))
	after := changing(s, func(s *api.Sender) { s.Base, s.Queue, s.Ended = 6, append(s.Queue[1:], end(12)), true })
	x = hears(t, x, ack(1, 6, 20), sending(after, nil))
	x = ticks(t, x, changing(x, func(x *api.Task) { x.Outs[0].Sender.Sent, x.Outs[0].Sender.Timer = 13, 1 }), append([]api.Msg{told(api.MsgData, 2, 1, 4, dataOf(13, end(12)))}, wants()...)...)
	last := x.Outs[0].Sender
	for n := uint64(7); n <= 13; n++ {
		s := changing(last, func(s *api.Sender) { s.Base, s.Queue, s.Timer = n, s.Queue[n-6:], 0 })
		hears(t, x, ack(1, n, 20), withOut(x, 0, api.Out{To: 1, Sender: s}))
	}
	all := changing(last, func(s *api.Sender) { s.Base, s.Queue, s.Timer = 14, nil, 0 })
	hears(t, x, ack(1, 14, 20), changing(withOut(x, 0, api.Out{To: 1, Sender: all}), func(x *api.Task) { x.State = api.TaskDone }))
	two := changing(x, func(x *api.Task) { x.Outs = append(x.Outs, goes(2, ended(3, 0), "")) })
	two = hears(t, two, ack(1, 14, 20), withOut(two, 0, api.Out{To: 1, Sender: all})) // another one is left
	deaf(t, two, ack(2, 4, 20))                                                       // that was not sent yet
	two = changing(two, func(x *api.Task) { x.Outs[1].Sender.Sent = 3 })
	hears(t, two, ack(2, 4, 20), changing(two, func(x *api.Task) {
		x.State, x.Outs[1].Sender = api.TaskDone, api.Sender{Session: epoch, Base: 4, Sent: 3, Limit: api.MaxSeq, Ended: true}
	}))
}

// P25.3: an ack to a stream of the task has it fill all streams, also if it says the stream itself nothing.
func TestAcksFillAll(t *testing.T) {
	x := sends() // the last stream has neither its end nor all that there is room for; the second one is Ended, the third one done
	filled := goes(4, ended(1, 2), "")
	want := withOut(x, 3, filled)
	hears(t, x, ack(1, 1, 2), want) // 1 is behind already
	hears(t, x, ack(2, 9, 9), want)
	hears(t, x, ack(3, 6, 11), want)
	hears(t, x, told(api.MsgAck, 1, 2, 4, changing(ackOf(3, 9), func(p *api.Packet) { p.Session = 9 })), want)
	deaf(t, x, ack(0, 3, 9), ack(5, 3, 9), told(api.MsgAck, 1, 2, 3, ackOf(3, 9)), told(api.MsgAck, 1, 3, 4, ackOf(3, 9)))
	y := changing(x, func(x *api.Task) { x.Outs[3].Rest = list("1 / 2 / 5 / 7 / 9") })
	last := changing(holds(1, 2), func(s *api.Sender) {
		s.Queue, s.Ended = append(s.Queue, rowsOf("1 / 2 / 5 / 7"), rowsOf("9"), end(4)), true
	})
	hears(t, y, ack(2, 7, 20), withOut(y, 3, goes(4, last, "")))
}

// P25.3: what can't be put stays: behind the end, and behind the greatest number.
func TestAcksWithoutRoom(t *testing.T) {
	behind := sending(changing(ended(4, 0), func(s *api.Sender) { s.Sent = 4 }), list("1 / 2"))
	deaf(t, behind, ack(1, 4, 9))
	behind = hears(t, behind, ack(1, 5, 9), sending(api.Sender{Session: epoch, Base: 5, Sent: 4, Limit: api.MaxSeq, Ended: true}, list("1 / 2")))
	deaf(t, behind, ack(1, 5, 9))
	top := changing(holds(api.MaxSeq-3, 3), func(s *api.Sender) { s.Sent = api.MaxSeq - 1 })
	after := changing(top, func(s *api.Sender) {
		s.Base, s.Queue = api.MaxSeq, []api.Batch{rowsOf("1 / 2 / 3 / 4")}
	})
	x := hears(t, sending(top, list("1 / 2 / 3 / 4 / 5")), ack(1, api.MaxSeq, api.MaxSeq), sending(after, list("5")))
	deaf(t, x, ack(1, api.MaxSeq, api.MaxSeq), ack(1, api.MaxSeq+1, api.MaxSeq))
	after.Queue = []api.Batch{rowsOf("1 / 2")}
	x = hears(t, sending(top, list("1 / 2")), ack(1, api.MaxSeq, api.MaxSeq), sending(after, nil)) // the end has no number any more
	deaf(t, x, ack(1, api.MaxSeq, api.MaxSeq))
	after.Queue, after.Ended = []api.Batch{end(api.MaxSeq - 1)}, true
	hears(t, sending(top, nil), ack(1, api.MaxSeq, api.MaxSeq), sending(after, nil))
}

// P25.3: data when all is over, in each state; and acks in each.
func TestHearInEachState(t *testing.T) {
	for _, x := range inStates()[1:] {
		for _, in := range x.Ins {
			for n := uint64(1); n < 6; n++ {
				deaf(t, x, data(in.Frag, in.From, n, batch(n)), data(in.Frag, in.From, n, end(n-1)))
			}
		}
		for from := range sites + 1 {
			for seq := uint64(1); seq < 12; seq++ {
				asRule(t, "Hear", given{Task: x, Msg: ack(from, seq, seq+2)})
			}
		}
	}
}

// P25.3: messages of a node to itself, and of the node 0.
func TestHearAtItself(t *testing.T) {
	x := changing(gathers(), func(x *api.Task) { x.Ins = []api.In{comes(0, 2, waits(1), ""), comes(4, 2, waits(1), "")} })
	x = hears(t, x, data(0, 2, 1, batch(1)), withIn(x, 0, comes(0, 2, waits(2), "1")))
	x = hears(t, x, data(4, 2, 1, batch(1)), withIn(x, 1, comes(4, 2, waits(2), "1"))) // of its own fragment
	hears(t, withOut(x, 1, goes(2, fresh(1), "")), ack(2, 1, 8), x)
	zero := changing(x, func(x *api.Task) { x.Node, x.Ins = 0, []api.In{comes(0, 0, waits(1), "")} })
	hears(t, zero, told(api.MsgData, 0, 0, 0, dataOf(1, batch(1))), withIn(zero, 0, comes(0, 0, waits(2), "1")))
	deaf(t, zero, data(0, 0, 1, batch(1)))
}
