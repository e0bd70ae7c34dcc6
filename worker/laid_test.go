package worker_test

import (
	"slices"

	"bowsprit/api"
)

// sites is how many nodes most workers that are laid here have beside them, epoch that of a stream till it is another task's.
const (
	sites = 4
	epoch = 3
)

// fresh is a sender as Open has it, but for its Limit.
func fresh(limit uint64) api.Sender {
	return api.Sender{Session: epoch, Base: 1, Limit: limit}
}

// batch is what stands at a number of a stream: one row, the number.
func batch(n uint64) api.Batch {
	return api.Batch{Rows: []api.Row{{number(int64(n))}}}
}

// rowsOf is a batch of rows as they are written, end is that of a stream with so many batches.
func rowsOf(s string) api.Batch {
	return api.Batch{Rows: list(s)}
}

func end(count uint64) api.Batch {
	return api.Batch{End: true, Count: count}
}

// holds is a sender that holds so many batches from base on, of which none was sent, though there is room for all.
func holds(base uint64, count int) api.Sender {
	s := api.Sender{Session: epoch, Base: base, Sent: base - 1, Limit: api.MaxSeq}
	for k := range count {
		s.Queue = append(s.Queue, batch(base+uint64(k)))
	}
	return s
}

// queued is a sender that was filled with batches, as far as there was room; ended, if the last one is an end.
func queued(limit uint64, batches ...api.Batch) api.Sender {
	s := fresh(limit)
	s.Queue = batches
	s.Ended = batches[len(batches)-1].End
	return s
}

// acknowledged is a sender of which so many batches, and the end, were.
func acknowledged(count uint64) api.Sender {
	return api.Sender{Session: epoch, Base: count + 2, Sent: count + 1, Limit: count + 8, Ended: true}
}

// waits is a receiver that wants a number, with some ahead of that; over is one whose end came behind so many batches.
func waits(next uint64, ahead ...uint64) api.Receiver {
	r := api.Receiver{Session: epoch, Room: api.MaxHold, Next: next}
	for _, n := range ahead {
		r.Ahead = append(r.Ahead, api.Held{Seq: n, Batch: batch(n)})
	}
	return r
}

func over(count uint64) api.Receiver {
	return api.Receiver{Session: epoch, Room: api.MaxHold, Next: count + 2, Over: true}
}

// comes is a stream that comes to a task, goes is one that goes out of it.
func comes(frag, from int, r api.Receiver, rows string) api.In {
	return api.In{Frag: frag, From: from, Receiver: r, Rows: list(rows)}
}

func goes(to int, s api.Sender, rest string) api.Out {
	return api.Out{To: to, Sender: s, Rest: list(rest)}
}

// place is which task one is, and where.
type place struct {
	node, epoch, number int
}

// taskOf is the task of a place, with its streams of that epoch.
func taskOf(p place, f api.Frag, state int, ins []api.In, outs []api.Out) api.Task {
	x := copyOf(api.Task{Epoch: p.epoch, Sites: sites, Number: p.number, Node: p.node, Frag: f, State: state, Ins: ins, Outs: outs})
	for k := range x.Ins {
		x.Ins[k].Receiver.Session = uint32(p.epoch)
	}
	for k := range x.Outs {
		x.Outs[k].Sender.Session = uint32(p.epoch)
	}
	return x
}

// both is the fragment of most tasks: all rows of the fragments 0 and 2.
func both(way int, cols ...int) api.Frag {
	return by(onAll(way, input(0, ki), input(2, ki), union()), cols...)
}

// came are streams that all are over.
func came() []api.In {
	return []api.In{comes(0, 1, over(2), "1 / 2"), comes(0, 3, over(0), ""), comes(2, 0, over(1), "5 / 1")}
}

// gathers, sends, done, fell and ended are tasks in each state, the last one with the query's rows.
func gathers(p place) api.Task {
	ins := []api.In{comes(0, 1, over(2), "1 / 2"), comes(0, 3, waits(3, 5, 7), "5"), comes(2, 0, waits(1), "")}
	return taskOf(p, both(api.WayShuffle, 0), api.TaskGathers, ins, []api.Out{goes(1, fresh(0), ""), goes(2, fresh(8), ""), goes(3, fresh(1), ""), goes(4, fresh(1), "")})
}

func sends(p place) api.Task {
	return taskOf(p, both(api.WayCast), api.TaskSends, came(), []api.Out{goes(1, holds(3, 8), "1 / 2 / 5"), goes(2, holds(7, 2), ""), goes(3, acknowledged(4), ""), goes(4, holds(1, 2), "")})
}

func done(p place) api.Task {
	return taskOf(p, both(api.WayCast), api.TaskDone, came(), []api.Out{goes(0, acknowledged(0), ""), goes(3, acknowledged(4), ""), goes(4, acknowledged(90), "")})
}

func fell(p place, e api.Errno) api.Task {
	x := taskOf(p, both(api.WayGather), api.TaskFell, came(), []api.Out{goes(0, fresh(8), "")})
	x.Err = e
	return x
}

func ended(p place, rows string) api.Task {
	x := taskOf(p, both(api.WayRoot), api.TaskDone, came(), nil)
	x.Rows = list(rows)
	return x
}

// scans is a task that nothing comes to: it goes on at once.
func scans(p place, f api.Frag, outs ...api.Out) api.Task {
	return taskOf(p, f, api.TaskGathers, nil, outs)
}

// tables are those of most workers' catalog, one of them by a column: t, and u, which scanU scans.
func tables() api.Catalog {
	return cat(tab("t", "a int b text", 0), tab("u", "c int"))
}

// plain is the worker of a node that has no query.
func plain(node int) api.Worker {
	w := api.Worker{Node: node, Sites: sites, Catalog: tables()}
	if node > 0 {
		w.Tables = [][]api.Row{list("1 'a' / NULL 'b'"), list("3 / 1 / NULL / 3")}
	}
	return copyOf(w)
}

// having is a worker that has just the epochs of these tasks, which stand as they are told.
func having(w api.Worker, l ...api.Task) api.Worker {
	w = copyOf(w)
	w.Tasks = l
	for _, x := range l {
		w.Has |= setOf(x.Epoch)
	}
	return copyOf(w)
}

// full is the worker of a node that has tasks in each state, of several epochs: one of them has none, two were dropped.
func full(node int) api.Worker {
	p := func(epoch, number int) place { return place{node, epoch, number} }
	w := having(plain(node), done(p(3, 0)), gathers(p(3, 2)), sends(p(3, 4)), fell(p(7, 1), api.ErrOver), gathers(p(7, 5)), fell(p(7, 6), api.ErrFault), sends(p(11, 0)), ended(p(11, 29), "5 / 1 / 5"), ended(p(12, 0), ""))
	w.Has |= setOf(1)
	w.Gone = setOf(2, 8)
	return w
}

// told is a message.
func told(kind, epoch, from, to int) api.Msg {
	return api.Msg{Kind: kind, Epoch: epoch, From: from, To: to}
}

// data is rows of an epoch's fragment, to a node; ack is what a node wants of them.
func data(epoch, frag, from, to int, seq uint64, b api.Batch) api.Msg {
	m := told(api.MsgData, epoch, from, to)
	m.Frag, m.Packet = frag, api.Packet{Kind: api.PkData, Session: uint32(epoch), Seq: seq, Batch: b}
	return m
}

func ack(epoch, frag, from, to int, seq, limit uint64) api.Msg {
	m := told(api.MsgAck, epoch, from, to)
	m.Frag, m.Packet = frag, api.Packet{Kind: api.PkAck, Session: uint32(epoch), Seq: seq, Limit: limit}
	return m
}

// planned is a plan that goes from the coordinator's node to another one, of so many; dropped has a node drop an epoch.
func planned(p api.Plan, epoch, to, sites int) api.Msg {
	m := told(api.MsgPlan, epoch, 0, to)
	m.Plan, m.Sites = p, sites
	return m
}

func dropped(epoch, to int) api.Msg {
	return told(api.MsgDrop, epoch, 0, to)
}

// have, gone and failed are what a node says to the coordinator's.
func have(epoch, from int) api.Msg {
	return told(api.MsgHave, epoch, from, 0)
}

func gone(epoch, from int) api.Msg {
	return told(api.MsgGone, epoch, from, 0)
}

func failed(epoch, from int, e api.Errno) api.Msg {
	m := told(api.MsgFail, epoch, from, 0)
	m.Err = e
	return m
}

// fourWays is a plan of all Ways: 0 is cast, 1 shuffled, 2 gathered, 3 cast from one node, 4 gathered, 5 the last one.
func fourWays() api.Plan {
	return planOf(
		onAll(api.WayCast, scanU()),
		by(onAll(api.WayShuffle, scanU()), 0),
		onAll(api.WayGather, input(0, ki), input(1, ki), join(eq(0, 1))),
		onOne(api.WayCast, input(2, ki, ki), picked(0)),
		onAll(api.WayGather, input(3, ki), scanU(), union()),
		root(input(4, ki)),
	)
}

// small is a plan of just two fragments.
func small() api.Plan {
	return planOf(onAll(api.WayGather, scanU()), root(input(0, ki)))
}

// ones are so many rows of the number 1.
func ones(count int) []api.Row {
	return slices.Repeat(list("1"), count)
}

// places are the nodes where a fragment runs; none, if there is no such fragment.
func places(p api.Plan, frag, nodes int) []int {
	switch {
	case frag < 0:
		return nil
	case p.Frags[frag].At == api.AtOne:
		return []int{0}
	}
	return numbers(1, nodes)
}

// begun is a task as it is begun, with its streams laid by hand.
func begun(p api.Plan, epoch, nodes, number, node int) api.Task {
	var ins []api.In
	for frag := range p.Frags {
		if readerByRule(p, frag) != number {
			continue
		}
		for _, from := range places(p, frag, nodes) {
			ins = append(ins, comes(frag, from, waits(1), ""))
		}
	}
	var outs []api.Out
	for _, to := range places(p, readerByRule(p, number), nodes) {
		outs = append(outs, goes(to, fresh(0), ""))
	}
	x := taskOf(place{node, epoch, number}, p.Frags[number], api.TaskGathers, ins, outs)
	x.Sites = nodes
	return x
}
