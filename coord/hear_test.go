package coord_test

import (
	"slices"
	"testing"

	"bowsprit/api"
)

// ofEachKind are messages of each Kind that a node says to the coordinator's of an epoch; all may be.
func ofEachKind(epoch, from int) []api.Msg {
	l := []api.Msg{have(epoch, from), gone(epoch, from), fails(epoch, from, api.ErrFault), fails(epoch, from, api.ErrOver), data(epoch, 0, from, 1, rowsOf("5")), data(epoch, 0, from, 2, end(1)), ack(epoch, 1, from, 1, 8), message(api.MsgDrop, epoch, from, 0)}
	m := plans(epoch, small(), 0)[0]
	m.From = from
	return append(l, m)
}

// P28.3: MsgHave: of a query that runs the node has it from then on, also if it says so twice; of others it changes nothing.
func TestHave(t *testing.T) {
	for epoch := range len(full().Entries) + 1 {
		for node := 1; node <= sites; node++ {
			want := full()
			if slices.Contains(fullRuns, epoch) {
				want.Entries[epoch-1].Has |= setOf(node)
			}
			after := hears(t, full(), have(epoch, node), want)
			deaf(t, after, have(epoch, node))
		}
	}
	c := laid(nil, entry(runs(1, small()), nil, nil))
	for _, nodes := range [][]int{{2}, {2, 1}, {2, 1, 1}, {2, 1, 1, 3}, {2, 1, 1, 3, 2}} {
		c = hears(t, c, have(1, nodes[len(nodes)-1]), laid(nil, entry(runs(1, small()), nodes, nil)))
	}
}

// P28.3: MsgGone: of a query that is over, and was told to be dropped, it is gone at the node; of one that runs, or of which nobody was told, it changes nothing.
func TestGone(t *testing.T) {
	for epoch := range len(full().Entries) + 1 {
		for node := 1; node <= sites; node++ {
			want := full()
			if slices.Contains(fullTold, epoch) {
				want.Entries[epoch-1].Gone |= setOf(node)
			}
			after := hears(t, full(), gone(epoch, node), want)
			deaf(t, after, gone(epoch, node))
		}
	}
	c := laid(nil, entry(over(1, came(nil)), []int{2}, nil))
	for k, nodes := range [][]int{{3}, {3, 3}, {3, 1}, {3, 1, 3}, {3, 1, 2}, {3, 1, 2, 1}} {
		c = hears(t, c, gone(1, nodes[len(nodes)-1]), laid(nil, entry(over(1, came(nil)), []int{2}, nodes)))
		isQuiet(t, k >= 4, c)
		deaf(t, c, have(1, 1), have(1, 3))
	}
}

// P28.3: MsgFail, of either Err: a query that runs is over by that, and its worker was told to drop it; the first one counts.
func TestFail(t *testing.T) {
	errs := []api.Errno{api.ErrFault, api.ErrOver}
	for epoch := range len(full().Entries) + 1 {
		for k, e := range errs {
			for node := 1; node <= sites; node++ {
				want := full()
				if slices.Contains(fullRuns, epoch) {
					want = ended(want, epoch, failed(e, 0))
				}
				after := hears(t, full(), fails(epoch, node, e), want)
				for other := 1; other <= sites; other++ {
					deaf(t, after, fails(epoch, other, e), fails(epoch, other, errs[1-k]))
				}
				if slices.Contains(fullRuns, epoch) {
					reports(t, after, epoch, failed(e, 0))
					refuses(t, "Cancel", given{Coord: after, Epoch: epoch}, api.ErrReported)
					hears(t, after, gone(epoch, node), of(after, func(c *api.Coord) { c.Entries[epoch-1].Gone = setOf(node) }))
				}
			}
		}
	}
}

// P28.3: MsgData and MsgAck: the worker's tasks hear them, those of a query that runs alone; what is no task's changes nothing.
func TestStreams(t *testing.T) {
	c := full()
	in := func(c *api.Coord, k int) *api.In { return &c.Worker.Tasks[0].Ins[k] }
	first := of(c, func(c *api.Coord) {
		in(c, 2).Rows, in(c, 2).Receiver.Next = list("7 / 8"), 2
	})
	after := hears(t, c, data(2, 0, 3, 1, rowsOf("7 / 8")), first)
	deaf(t, after, data(2, 0, 3, 1, rowsOf("7 / 8")))
	both := of(first, func(c *api.Coord) { in(c, 1).Receiver = closed(2, 1) })
	after = hears(t, after, data(2, 0, 2, 2, end(1)), both)
	all := of(both, func(c *api.Coord) { in(c, 2).Receiver = closed(2, 1) })
	after = hears(t, after, data(2, 0, 3, 2, end(1)), all)
	deaf(t, after, data(2, 0, 3, 3, rowsOf("7")), data(2, 1, 3, 1, rowsOf("7")), data(5, 0, 3, 3, rowsOf("7")), data(3, 0, 3, 1, rowsOf("7")), data(1, 0, 3, 1, rowsOf("7")), data(9, 0, 3, 1, rowsOf("7")), data(10, 0, 3, 1, rowsOf("7")))

	sends := taskOf(1, 1, api.TaskSends, onOne(api.WayCast, input(0, ki)), ins(1, 0, "5", "3 / 9", ""))
	for node := 1; node <= sites; node++ {
		s := api.Sender{Session: 1, Base: 2, Queue: []api.Batch{end(1)}, Sent: 2, Limit: 8, Ended: true}
		sends.Outs = append(sends.Outs, api.Out{To: node, Sender: s})
	}
	c = laid([]api.Task{sends}, entry(runs(1, twice(), "c"), nil, nil))
	for node := sites; node > 0; node-- {
		c = hears(t, c, ack(1, 1, node, 3, 9), of(c, func(c *api.Coord) {
			c.Worker.Tasks[0].Outs[node-1].Sender = api.Sender{Session: 1, Base: 3, Sent: 2, Limit: 9, Ended: true}
			if node == 1 {
				c.Worker.Tasks[0].State = api.TaskDone
			}
		}))
		deaf(t, c, ack(1, 1, node, 3, 9), ack(1, 0, node, 3, 9), ack(2, 1, node, 3, 9), ack(1, 2, node, 3, 9))
	}
}

// P28.3: MsgPlan and MsgDrop change nothing, whoever says them.
func TestPlanAndDropOfOthers(t *testing.T) {
	for epoch := 1; epoch <= 11; epoch++ {
		for node := range sites + 1 {
			l := append(plans(epoch, small(), 0), drops(epoch, 0)...)
			for _, m := range l {
				m.From = node
				deaf(t, full(), m)
			}
		}
	}
}

// P28.3: of each Kind: from the coordinator's node itself, from one more than there are, to another node, of an epoch without an entry: nothing changes, of no query.
func TestNotForIt(t *testing.T) {
	heard := 0
	for epoch := 1; epoch <= api.MaxEpochs; epoch++ {
		for from := range api.MaxSites + 1 {
			for _, m := range ofEachKind(epoch, from) {
				if from == 0 || from > sites || epoch > 10 {
					deaf(t, full(), m)
				} else if got := asRule(t, "Hear", given{Coord: full(), Msg: m}); !same(got.Coord, full()) {
					heard++
				}
				for to := 1; to <= sites+1; to++ {
					m.To = to
					deaf(t, full(), m)
				}
			}
		}
	}
	if heard < 40 {
		t.Error(heard)
	}
	for count := range 4 {
		for _, m := range ofEachKind(count+1, 1) {
			deaf(t, filled(count), m)
		}
	}
}

// P28.3: messages that may not be, but for one thing of each: they change nothing, though ones that may be would.
func TestNoMessages(t *testing.T) {
	changes := []func(m *api.Msg){
		func(m *api.Msg) { m.Epoch = 0 }, func(m *api.Msg) { m.Epoch = -1 }, func(m *api.Msg) { m.Epoch = api.MaxEpochs + 1 }, func(m *api.Msg) { m.Epoch += 1 << 32 }, func(m *api.Msg) { m.From += 1 << 32 }, func(m *api.Msg) { m.From = -1 }, func(m *api.Msg) { m.From = api.MaxSites + 1 }, func(m *api.Msg) { m.To = -1 }, func(m *api.Msg) { m.To = 1 << 32 },
		func(m *api.Msg) { m.Sites = sites }, func(m *api.Msg) { m.Plan = small() }, func(m *api.Msg) { m.Frag = -1 }, func(m *api.Msg) { m.Frag = api.MaxFrags }, func(m *api.Msg) { m.Err ^= 1 }, func(m *api.Msg) { m.Err = api.ErrCancel }, func(m *api.Msg) { m.Packet.Session ^= 1 << 31 },
		func(m *api.Msg) { m.Packet.Kind ^= 3 }, func(m *api.Msg) { m.Packet.Seq = 0; m.Packet.Limit++ }, func(m *api.Msg) { m.Kind = 0 }, func(m *api.Msg) { m.Kind = 8 }, func(m *api.Msg) { m.Kind += 1 << 32 }, func(m *api.Msg) { m.Kind = -m.Kind },
	}
	for epoch := 1; epoch <= 10; epoch++ {
		for _, m := range ofEachKind(epoch, 3)[:7] {
			for _, change := range changes {
				deaf(t, full(), changing(m, change))
			}
		}
	}
	deaf(t, full(), api.Msg{}, api.Msg{Kind: api.MsgHave}, api.Msg{Epoch: 2, From: 1})
}

// P28.3: one query's messages, one behind the other, by several nodes: a node that has it, then says so late, when it is over already.
func TestLateMessages(t *testing.T) {
	c := laid([]api.Task{ready(1)}, entry(runs(1, small(), "c"), nil, nil))
	c = hears(t, c, have(1, 2), of(c, func(c *api.Coord) { c.Entries[0].Has = setOf(2) }))
	deaf(t, c, gone(1, 2), gone(1, 1))
	done := ended(c, 1, came(list("3 / 5 / 9"), "c"))
	c = ticks(t, c, done, append(wants(1, 3, 3, 2), drops(1, 1, 2, 3)...)...)
	deaf(t, c, have(1, 1), have(1, 2), fails(1, 1, api.ErrFault), data(1, 0, 1, 1, rowsOf("5")), ack(1, 0, 1, 1, 8))
	c = hears(t, c, gone(1, 2), of(done, func(c *api.Coord) { c.Entries[0].Gone = setOf(2) }))
	ticks(t, c, c, drops(1, 1, 3)...)
	reports(t, c, 1, came(list("3 / 5 / 9"), "c"))
}
