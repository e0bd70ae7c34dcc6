package task_test

import (
	"slices"
	"testing"

	"bowsprit/api"
)

// packets is data of the task, to a node, for each number from one to another, each of its batch.
func packets(to int, from, last uint64) (l []api.Msg) {
	for n := from; n <= last; n++ {
		l = append(l, told(api.MsgData, 2, to, 4, dataOf(n, batch(n))))
	}
	return l
}

// P25.5: no streams; just such as come, as they stand; just such as go out, of which nothing is to be sent.
func TestTickOfNothing(t *testing.T) {
	for _, state := range []int{api.TaskGathers, api.TaskDone, api.TaskFell} {
		ticks(t, streamless(state), streamless(state))
	}
	x := taskOf(both(api.WayCast), api.TaskGathers, nil, opened())
	ticks(t, x, x)
	x = taskOf(both(api.WayCast), api.TaskGathers, []api.In{comes(3, 2, waits(5, 6, 8), "1")}, nil)
	ticks(t, x, x, told(api.MsgAck, 2, 2, 3, ackOf(5, 12)))
	x.Ins[0].Receiver = waits(api.MaxSeq - 2)
	ticks(t, x, x, told(api.MsgAck, 2, 2, 3, ackOf(api.MaxSeq-2, api.MaxSeq)))
	x.Ins[0].Receiver = waits(api.MaxSeq + 1)
	ticks(t, x, x, told(api.MsgAck, 2, 2, 3, ackOf(api.MaxSeq+1, api.MaxSeq)))
	x.Ins[0].Receiver = over(0)
	ticks(t, x, x, told(api.MsgAck, 2, 2, 3, ackOf(2, 9)))
}

// P25.5: of each stream that goes out, in order, what its sender sends; then of each that comes, in order, what its receiver wants.
func TestOrderOfTick(t *testing.T) {
	x := taskOf(both(api.WayCast), api.TaskSends, came(), []api.Out{goes(0, holds(3, 3), ""), goes(1, fresh(9), "1"), goes(2, changing(holds(7, 4), func(s *api.Sender) { s.Limit = 8 }), ""), goes(4, acknowledged(5), "")})
	sent := changing(x, func(x *api.Task) { x.Outs[0].Sender.Sent, x.Outs[2].Sender.Sent = 5, 8 })
	y := ticks(t, x, sent, slices.Concat(packets(0, 3, 5), packets(2, 7, 8), wants())...)
	waiting := func(timer int) api.Task {
		return changing(sent, func(x *api.Task) { x.Outs[0].Sender.Timer, x.Outs[2].Sender.Timer = timer, timer })
	}
	y = ticks(t, y, waiting(1), wants()...)
	y = ticks(t, y, waiting(2), wants()...)
	y = ticks(t, y, waiting(0), slices.Concat(packets(0, 3, 5), packets(2, 7, 8), wants())...) // again
	y = changing(ticks(t, y, waiting(1), wants()...), func(x *api.Task) { x.Outs[2].Sender.Limit = 20 })
	want := changing(waiting(2), func(x *api.Task) { x.Outs[2].Sender.Limit, x.Outs[2].Sender.Sent = 20, 10 })
	ticks(t, y, want, slices.Concat(packets(2, 9, 10), wants())...)
}

// P25.5: in each state: just the one that sends has something to send, all say what they want.
func TestTickInEachState(t *testing.T) {
	x := gathers()
	ticks(t, x, x, told(api.MsgAck, 2, 1, 0, ackOf(4, 11)), told(api.MsgAck, 2, 3, 0, ackOf(3, 10)), told(api.MsgAck, 2, 0, 2, ackOf(1, 8)))
	for _, x := range []api.Task{done(), fell(), rooted(api.TaskDone)} {
		ticks(t, x, x, wants()...)
	}
	x = sends()
	want := changing(x, func(x *api.Task) {
		for k, sent := range map[int]uint64{0: 10, 1: 9, 3: 2} {
			x.Outs[k].Sender.Sent = sent
		}
	})
	last := told(api.MsgData, 2, 2, 4, dataOf(9, end(8)))
	ticks(t, x, want, slices.Concat(packets(1, 3, 10), packets(2, 7, 8), []api.Msg{last}, packets(4, 1, 2), wants())...) // nothing is filled
}

// P25.5: all is of the task's epoch, from its node, of its number, or of its streams' fragments.
func TestWhoTicks(t *testing.T) {
	for _, e := range []int{1, 7, api.MaxEpochs} {
		for _, node := range []int{0, 1, sites} {
			for _, number := range []int{0, 17, api.MaxFrags - 1} {
				x := taskOf(both(api.WayCast), api.TaskSends, came(), []api.Out{goes(2, holds(3, 1), ""), goes(node, holds(5, 1), "")})
				slices.SortFunc(x.Outs, func(a, b api.Out) int { return a.To - b.To })
				x.Node, x.Number = node, number
				x = ofEpoch(x, e)
				got := asRule(t, "Tick", given{Task: x})
				if len(got.Msgs) != 5 {
					t.Error(got)
				}
				for k, m := range got.Msgs {
					frag := []int{number, number, 0, 0, 2}[k]
					to := []int{min(2, node), max(2, node), 1, 3, 0}[k]
					if m.Epoch != e || m.From != node || m.Frag != frag || m.To != to || m.Packet.Session != uint32(e) {
						t.Errorf("%v: %v of %v", k, m, x)
					}
				}
			}
		}
	}
}

// P25.5: rows of all widths and kinds are told as they are, at the greatest numbers too.
func TestRowsOfTick(t *testing.T) {
	s := api.Sender{Session: epoch, Base: api.MaxSeq - 1, Sent: api.MaxSeq - 2, Limit: api.MaxSeq, Queue: []api.Batch{{Rows: goodRows()[2:]}, {Rows: goodRows()[:4]}}}
	x := taskOf(both(api.WayGather), api.TaskSends, nil, []api.Out{goes(0, s, "")})
	want := changing(x, func(x *api.Task) { x.Outs[0].Sender.Sent = api.MaxSeq })
	ticks(t, x, want, told(api.MsgData, 2, 0, 4, dataOf(api.MaxSeq-1, s.Queue[0])), told(api.MsgData, 2, 0, 4, dataOf(api.MaxSeq, s.Queue[1])))
}

// P25.5, P25.3: tasks of chance in each state, which tick, and hear what others say, and what they say themselves.
func TestTickByRule(t *testing.T) {
	m := newMaker(255)
	msgs, heard := 0, map[int]int{}
	for range 700 {
		x, other := m.task(), m.task()
		got := asRule(t, "Tick", given{Task: x})
		msgs += len(got.Msgs)
		said := append(asRule(t, "Tick", given{Task: other}).Msgs, got.Msgs...)
		for from := range sites + 1 {
			said = append(said, told(api.MsgAck, from, x.Node, x.Number, ackOf(1+uint64(m.Intn(12)), 12+uint64(m.Intn(6)))))
			said = append(said, told(api.MsgData, from, x.Node, []int{0, 2}[m.Intn(2)], dataOf(1+uint64(m.Intn(12)), api.Batch{Rows: m.rows()})))
		}
		for _, in := range x.Ins {
			next := in.Receiver.Next
			said = append(said, told(api.MsgData, in.From, x.Node, in.Frag, dataOf(next+uint64(m.Intn(4)), batch(1))), told(api.MsgData, in.From, x.Node, in.Frag, dataOf(next, rowsOf("5 / 6"))))
		}
		for _, msg := range said {
			if m.Intn(2) == 0 {
				msg.To = x.Node
			}
			if msg.Kind == api.MsgAck && m.Intn(2) == 0 {
				msg.Frag = x.Number
			}
			after := asRule(t, "Hear", given{Task: got.Task, Msg: msg})
			if !same(after.Task, got.Task) {
				heard[x.State]++
				got = after
			}
		}
	}
	if msgs < 2000 || heard[1] < 100 || heard[2] < 100 || heard[3] < 30 || heard[4] < 30 {
		t.Error(msgs, heard)
	}
}
