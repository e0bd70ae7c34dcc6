package worker_test

import (
	"math"
	"slices"
	"testing"

	"bowsprit/api"
	"bowsprit/frame"
	"bowsprit/prop"
)

// withIn and withOut are workers one of whose tasks has another stream.
func withIn(w api.Worker, task, k int, in api.In) api.Worker {
	return changing(w, func(w *api.Worker) {
		in.Receiver.Session = uint32(w.Tasks[task].Epoch)
		w.Tasks[task].Ins[k] = in
	})
}

func withOut(w api.Worker, task, k int, out api.Out) api.Worker {
	return changing(w, func(w *api.Worker) {
		out.Sender.Session = uint32(w.Tasks[task].Epoch)
		w.Tasks[task].Outs[k] = out
	})
}

// P26.3: data of a stream that comes to one task of the epoch, in order, with a gap, twice; at each node.
func TestData(t *testing.T) {
	for node := range sites + 1 {
		w := full(node) // of its task 1, of the epoch 3, the stream of 2 from 0 has not begun
		w = hears(t, w, data(3, 2, 0, node, 1, rowsOf("8 / 6")), withIn(w, 1, 2, comes(2, 0, waits(2), "8 / 6")))
		deaf(t, w, data(3, 2, 0, node, 1, rowsOf("8 / 6")))
		w = hears(t, w, data(3, 2, 0, node, 3, batch(3)), withIn(w, 1, 2, comes(2, 0, waits(2, 3), "8 / 6")))
		w = hears(t, w, data(3, 0, 3, node, 3, batch(3)), withIn(w, 1, 1, comes(0, 3, waits(4, 5, 7), "5 / 3")))
		w = hears(t, w, data(3, 2, 0, node, 2, batch(2)), withIn(w, 1, 2, comes(2, 0, waits(4), "8 / 6 / 2 / 3")))
		w = hears(t, w, data(3, 2, 0, node, 4, end(3)), withIn(w, 1, 2, comes(2, 0, over(3), "8 / 6 / 2 / 3")))
		w = hears(t, w, data(7, 2, 0, node, 1, end(0)), withIn(w, 4, 2, comes(2, 0, over(0), "")))
		deaf(t, w, data(7, 2, 0, node, 1, end(0)), data(3, 2, 0, node, 4, end(3)))
	}
}

// P26.3: data that several tasks of the epoch wait for; those of other epochs hear nothing of it.
func TestDataOfSeveral(t *testing.T) {
	for _, node := range []int{0, 2} {
		p := func(epoch, number int) place { return place{node, epoch, number} }
		w := having(plain(node), gathers(p(2, 2)), gathers(p(3, 1)), sends(p(3, 2)), gathers(p(3, 4)), gathers(p(3, 29)), gathers(p(4, 1)))
		got := hears(t, w, data(3, 2, 0, node, 1, batch(9)), changing(w, func(w *api.Worker) {
			for _, k := range []int{1, 3, 4} {
				w.Tasks[k].Ins[2] = comes(2, 0, waits(2), "9")
			}
		}))
		hears(t, got, data(2, 2, 0, node, 1, batch(9)), changing(got, func(w *api.Worker) {
			w.Tasks[0].Ins[2].Receiver.Next, w.Tasks[0].Ins[2].Rows = 2, list("9")
		}))
	}
}

// P26.3: acks, of the task whose number they have, from the node to which its stream goes; it fills, and may be done by that.
func TestAcks(t *testing.T) {
	for node := range sites + 1 {
		w := full(node)
		w = hears(t, w, ack(3, 2, 1, node, 1, 9), withOut(w, 1, 0, goes(1, fresh(9), "")))
		w = hears(t, w, ack(3, 2, 4, node, 1, 30), withOut(w, 1, 3, goes(4, fresh(30), "")))
		first := holds(3, 8)
		first.Sent, first.Limit = 4, 6
		w = withOut(w, 2, 0, goes(1, first, "1 / 2 / 5"))
		filled := holds(5, 6)
		filled.Sent, filled.Limit, filled.Ended = 4, 12, true
		filled.Queue = append(filled.Queue, rowsOf("1 / 2 / 5"), end(11))
		all := []api.Out{goes(1, filled, ""), w.Tasks[2].Outs[1], w.Tasks[2].Outs[2], w.Tasks[2].Outs[3]}
		all[1].Sender.Ended, all[3].Sender.Ended = true, true // these had room for their ends
		all[1].Sender.Queue = append(slices.Clone(all[1].Sender.Queue), end(8))
		all[3].Sender.Queue = append(slices.Clone(all[3].Sender.Queue), end(2))
		w = hears(t, w, ack(3, 4, 1, node, 5, 12), changing(w, func(w *api.Worker) { w.Tasks[2].Outs = all }))
		deaf(t, w, ack(3, 4, 1, node, 4, 30), ack(3, 4, 1, node, 6, 30))
		last := fresh(8)
		last.Session = 11
		last.Queue, last.Ended, last.Sent = []api.Batch{end(0)}, true, 1
		w = changing(w, func(w *api.Worker) { w.Tasks[6].Outs = []api.Out{goes(2, last, "")} })
		w = hears(t, w, ack(11, 0, 2, node, 2, 9), changing(w, func(w *api.Worker) {
			s := acknowledged(0)
			s.Session, s.Limit = 11, 9
			w.Tasks[6].State, w.Tasks[6].Outs = api.TaskDone, []api.Out{goes(2, s, "")}
		}))
		deaf(t, w, ack(11, 0, 2, node, 2, 9))
	}
}

// P26.3: data and acks for none: of streams that no task has, of epochs without tasks, of such as were dropped, of none; to another node.
func TestStreamsOfOthers(t *testing.T) {
	for node := range sites + 1 {
		w := full(node)
		for e := 1; e <= api.MaxEpochs; e++ {
			if e == 3 || e == 7 {
				continue
			}
			deaf(t, w, data(e, 2, 0, node, 1, batch(1)), data(e, 2, 0, node, 1, end(0)), ack(e, 2, 1, node, 1, 9), data(e, 0, 3, node, 3, batch(3)))
		}
		for _, e := range []int{3, 7} {
			for from := 1; from <= api.MaxSites; from++ {
				deaf(t, w, data(e, 2, from, node, 1, batch(1)))
			}
			for frag := range api.MaxFrags {
				if frag != 2 {
					deaf(t, w, data(e, frag, 0, node, 1, batch(1)))
				}
			}
			for to := range api.MaxSites + 1 {
				if to != node {
					deaf(t, w, data(e, 2, 0, to, 1, batch(1)), data(e, 0, 3, to, 3, batch(1)), ack(e, 2, 1, to, 1, 9))
				}
			}
		}
		deaf(t, w, ack(3, 2, 0, node, 1, 9), ack(3, 2, 5, node, 1, 9), ack(3, 3, 1, node, 1, 9), ack(7, 2, 1, node, 1, 9), ack(3, 2, 1, node, 2, 9))
	}
}

// P26.3: what nobody hears: the kinds that a node says itself, each to a node, from each other one, of each epoch.
func TestOtherKinds(t *testing.T) {
	for node := range sites + 1 {
		for e := 1; e <= api.MaxEpochs; e++ {
			for from := range api.MaxSites + 1 {
				for _, kind := range []int{api.MsgHave, api.MsgGone} {
					deaf(t, full(node), told(kind, e, from, node))
				}
				deaf(t, full(node), changing(failed(e, from, api.ErrFault), func(m *api.Msg) { m.To = node }), changing(failed(e, from, api.ErrOver), func(m *api.Msg) { m.To = node }))
			}
		}
	}
}

// spoiledMsgs are messages like one that may be, of which one thing is not as it must be.
func spoiledMsgs(m api.Msg) (l []api.Msg) {
	for _, do := range []func(m *api.Msg){
		func(m *api.Msg) { m.Epoch = 0 }, func(m *api.Msg) { m.Epoch = -1 }, func(m *api.Msg) { m.Epoch = api.MaxEpochs + 1 }, func(m *api.Msg) { m.Epoch += 1 << 32 }, func(m *api.Msg) { m.Epoch += 32 },
		func(m *api.Msg) { m.From = -1 }, func(m *api.Msg) { m.From = api.MaxSites + 1 }, func(m *api.Msg) { m.From = 1 << 32 }, func(m *api.Msg) { m.To = -1 }, func(m *api.Msg) { m.To = api.MaxSites + 1 }, func(m *api.Msg) { m.To += 1 << 32 },
		func(m *api.Msg) { m.Kind = 0 }, func(m *api.Msg) { m.Kind = -m.Kind }, func(m *api.Msg) { m.Kind = 8 }, func(m *api.Msg) { m.Kind += 1 << 32 }, func(m *api.Msg) { m.Err = api.ErrArg }, func(m *api.Msg) { m.Sites = api.MaxSites + 1 }, func(m *api.Msg) { m.Sites = -1 },
		func(m *api.Msg) { m.Frag = -1 }, func(m *api.Msg) { m.Frag = api.MaxFrags }, func(m *api.Msg) { m.Packet.Session = math.MaxUint32 }, func(m *api.Msg) { m.Packet.Batch.Count = math.MaxUint64 }, func(m *api.Msg) { m.Packet.Batch.Rows = []api.Row{wrongRows()[0]} },
		func(m *api.Msg) { m.Packet.Batch.Rows = ones(api.MaxBatch + 1) }, func(m *api.Msg) { m.Plan.Frags = append(m.Plan.Frags, api.Frag{}) }, func(m *api.Msg) { m.Plan.Frags = append(m.Plan.Frags, onAll(9, scanU())) }, func(m *api.Msg) { *m = api.Msg{} },
	} {
		l = append(l, changing(m, do))
	}
	switch m.Kind {
	case api.MsgPlan:
		l = append(l, changing(m, func(m *api.Msg) { m.Frag = 1 }), changing(m, func(m *api.Msg) { m.Packet.Seq = 1 }), changing(m, func(m *api.Msg) { m.Sites = 0 }), changing(m, func(m *api.Msg) { m.Plan = api.Plan{} }), changing(m, func(m *api.Msg) { m.Plan.Frags[0].Nodes[0].A = 0 }), changing(m, func(m *api.Msg) { m.Plan.Frags = slices.Repeat(m.Plan.Frags, api.MaxFrags) }))
	case api.MsgDrop:
		l = append(l, changing(m, func(m *api.Msg) { m.Frag = 1 }), changing(m, func(m *api.Msg) { m.Sites = sites }), changing(m, func(m *api.Msg) { m.Packet.Kind = 1 }), changing(m, func(m *api.Msg) { m.Err = api.ErrFault }), changing(m, func(m *api.Msg) { m.Plan = small() }))
	default:
		l = append(l, changing(m, func(m *api.Msg) { m.Sites = sites }), changing(m, func(m *api.Msg) { m.Err = api.ErrOver }), changing(m, func(m *api.Msg) { m.Plan = small() }), changing(m, func(m *api.Msg) { m.Packet.Kind = 3 - m.Packet.Kind }), changing(m, func(m *api.Msg) { m.Packet.Seq = 0 }), changing(m, func(m *api.Msg) { m.Packet.Session = 0 }), changing(m, func(m *api.Msg) { m.Packet = api.Packet{} }), changing(m, func(m *api.Msg) { m.Kind = 7 - m.Kind }))
	}
	return l
}

// P26.3: messages that may not be, though they would change something, or have the node say something, but for one thing.
func TestMessagesThatMayNot(t *testing.T) {
	for _, node := range []int{0, 1, sites} {
		w := full(node)
		for _, m := range []api.Msg{planned(fourWays(), 4, node, sites), planned(small(), 3, node, sites), planned(small(), 2, node, sites), dropped(3, node), dropped(4, node), dropped(2, node), data(3, 2, 0, node, 1, batch(1)), data(7, 2, 0, node, 1, end(0)), ack(3, 2, 1, node, 1, 9), ack(3, 4, 4, node, 1, 1<<30)} {
			if e := frame.Check(m); e != api.OK {
				t.Fatal(m, e)
			}
			for _, x := range spoiledMsgs(m) {
				if e := frame.Check(x); e == api.OK {
					t.Fatal(x)
				}
				deaf(t, w, x)
			}
		}
	}
}

// P26.3: a message that would have more bytes than one may have is none, be it a plan of which each fragment may be.
func TestPlanThatIsTooLong(t *testing.T) {
	wide := on(api.NAdd, col(0), num(1))
	for range 7 {
		wide = on(api.NAdd, wide, wide)
	}
	longs := 0
	for items := 1; items <= api.MaxWidth; items++ {
		p := planOf(onAll(api.WayGather, scanU(), project(slices.Repeat([]api.Expr{wide}, items)...), picked(0)), root(input(0, ki)))
		if _, _, e := prop.Check(p, tables()); e != api.OK {
			t.Fatal(items, e)
		}
		m := planned(p, 4, 1, sites)
		if frame.Check(m) == api.OK {
			hears(t, plain(1), m, withTasks(plain(1), 4, 0, begun(p, 4, sites, 0, 1)), have(4, 1))
			continue
		}
		deaf(t, plain(1), m)
		deaf(t, full(1), m, changing(m, func(m *api.Msg) { m.Epoch = 3 }), changing(m, func(m *api.Msg) { m.Epoch = 2 }))
		longs++
	}
	if longs == 0 || longs == api.MaxWidth {
		t.Error(longs)
	}
}

// P26.3: workers of chance, and messages of chance, many of which change something.
func TestHearByRule(t *testing.T) {
	m := newMaker(264)
	changed, said := map[int]int{}, map[int]int{}
	for range 120 {
		w := m.worker()
		for range 40 {
			msg := m.msg(w)
			got := asRule(t, "Hear", given{Worker: w, Msg: msg})
			if !same(got.Worker, w) {
				changed[msg.Kind]++
				w = got.Worker
			}
			for _, x := range got.Msgs {
				said[x.Kind]++
			}
		}
	}
	if changed[api.MsgPlan] < 50 || changed[api.MsgDrop] < 100 || changed[api.MsgData] < 50 || changed[api.MsgAck] < 100 || len(changed) != 4 || said[api.MsgHave] < 100 || said[api.MsgGone] < 100 || len(said) != 2 {
		t.Error(changed, said)
	}
}

// msg is a message of chance, mostly one that a worker hears.
func (m *maker) msg(w api.Worker) api.Msg {
	e := 1 + m.Intn(api.MaxEpochs)
	x := api.Msg{}
	switch m.Intn(6) {
	case 0:
		x = planned([]api.Plan{fourWays(), small(), noPlans()[m.Intn(len(noPlans()))]}[m.Intn(3)], e, w.Node, w.Sites)
	case 1:
		if m.Intn(4) == 0 {
			x = dropped(e, w.Node)
		} else {
			x = told(1+m.Intn(7), e, m.Intn(3), w.Node)
		}
	case 2, 3:
		x = data(e, 2*m.Intn(2), m.Intn(5), w.Node, 1+uint64(m.Intn(9)), batch(7))
	default:
		seq := 1 + uint64(m.Intn(12))
		x = ack(e, m.Intn(api.MaxFrags), m.Intn(5), w.Node, seq, seq+uint64(m.Intn(9)))
	}
	if len(w.Tasks) > 0 && m.Intn(3) > 0 {
		m.fits(&x, w.Tasks[m.Intn(len(w.Tasks))])
	}
	if m.Intn(12) == 0 {
		x, _ = variant(x, m.Intn(20))
	}
	return x
}

// fits has a message be of one of a task's streams, if that has one.
func (m *maker) fits(x *api.Msg, of api.Task) {
	x.Epoch = of.Epoch
	if x.Packet.Session > 0 {
		x.Packet.Session = uint32(of.Epoch)
	}
	if len(of.Ins) > 0 && x.Kind == api.MsgData {
		in := of.Ins[m.Intn(len(of.Ins))]
		x.Frag, x.From = in.Frag, in.From
		x.Packet.Seq = in.Receiver.Next + uint64(m.Intn(3))
	}
	if len(of.Outs) > 0 && x.Kind == api.MsgAck {
		out := of.Outs[m.Intn(len(of.Outs))]
		x.Frag, x.From = of.Number, out.To
		x.Packet.Seq = out.Sender.Base + uint64(m.Intn(2))
		x.Packet.Limit = x.Packet.Seq + 9
	}
}
