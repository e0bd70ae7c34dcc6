package task_test

import (
	"slices"

	"bowsprit/api"
)

// epoch is that of most tasks that are laid here, sites how many nodes there are.
const (
	epoch = 3
	sites = 4
)

// fresh is a sender as Open has it, but for its Limit.
func fresh(limit uint64) api.Sender {
	return openedBy(epoch, limit)
}

// batch is what stands at a number of a stream: one row, the number.
func batch(n uint64) api.Batch {
	return api.Batch{Rows: []api.Row{{number(int64(n))}}}
}

func end(count uint64) api.Batch {
	return api.Batch{End: true, Count: count}
}

// holds is a sender that holds so many batches from base on, of which none was sent, though there is room for all.
func holds(base uint64, count int) api.Sender {
	s := api.Sender{Session: epoch, Base: base, Sent: base - 1, Limit: api.MaxSeq}
	for k := range count {
		s.Queue = append(s.Queue, batch(base+uint64(k)))
	}
	return s
}

// ended is such a one with the end behind its batches.
func ended(base uint64, count int) api.Sender {
	s := holds(base, count)
	s.Queue, s.Ended = append(s.Queue, end(base+uint64(count)-1)), true
	return s
}

// acknowledged is a sender of which so many batches, and the end, were.
func acknowledged(count uint64) api.Sender {
	return api.Sender{Session: epoch, Base: count + 2, Sent: count + 1, Limit: count + 8, Ended: true}
}

// waits is a receiver that wants a number, with some ahead of that; over is one whose end came behind so many batches.
func waits(next uint64, ahead ...uint64) api.Receiver {
	r := api.Receiver{Session: epoch, Room: api.MaxHold, Next: next}
	for _, n := range ahead {
		r.Ahead = append(r.Ahead, api.Held{Seq: n, Batch: batch(n)})
	}
	return r
}

func over(count uint64) api.Receiver {
	return api.Receiver{Session: epoch, Room: api.MaxHold, Next: count + 2, Over: true}
}

// comes is a stream that comes to a task, goes is one that goes out of it.
func comes(frag, from int, r api.Receiver, rows string) api.In {
	return api.In{Frag: frag, From: from, Receiver: r, Rows: list(rows)}
}

func goes(to int, s api.Sender, rest string) api.Out {
	return api.Out{To: to, Sender: s, Rest: list(rest)}
}

// both is the fragment of most tasks: all rows of the fragments 0 and 2.
func both(way int, cols ...int) api.Frag {
	return by(onAll(way, input(0, ki), input(2, ki), union()), cols...)
}

// taskOf is a task of such a fragment, the number 4, at the node 2, in a state.
func taskOf(f api.Frag, state int, ins []api.In, outs []api.Out) api.Task {
	return api.Task{Epoch: epoch, Sites: sites, Number: 4, Node: 2, Frag: f, State: state, Ins: ins, Outs: outs}
}

// came are streams that all are over.
func came() []api.In {
	return []api.In{comes(0, 1, over(2), "1 / 2"), comes(0, 3, over(0), ""), comes(2, 0, over(1), "5 / 1")}
}

// wants is what a task says to these, as often as it ticks.
func wants() []api.Msg {
	return []api.Msg{told(api.MsgAck, 2, 1, 0, ackOf(4, 11)), told(api.MsgAck, 2, 3, 0, ackOf(2, 9)), told(api.MsgAck, 2, 0, 2, ackOf(3, 10))}
}

// opened are streams of which nothing was sent.
func opened() []api.Out {
	return []api.Out{goes(1, fresh(0), ""), goes(2, fresh(8), ""), goes(3, fresh(api.MaxSeq), ""), goes(4, fresh(1), "")}
}

// gathers, sends, done and fell are tasks in each state, and rooted ones that have rows.
func gathers() api.Task {
	return taskOf(both(api.WayShuffle, 0), api.TaskGathers, []api.In{comes(0, 1, over(2), "1 / 2"), comes(0, 3, waits(3, 5, 7), "5"), comes(2, 0, waits(1), "")}, opened())
}

func sends() api.Task {
	return taskOf(both(api.WayCast), api.TaskSends, came(), []api.Out{goes(1, holds(3, 8), "1 / 2 / 5"), goes(2, ended(7, 2), ""), goes(3, acknowledged(4), ""), goes(4, holds(1, 2), "")})
}

func done() api.Task {
	return taskOf(both(api.WayCast), api.TaskDone, came(), []api.Out{goes(0, acknowledged(0), ""), goes(3, acknowledged(4), ""), goes(4, acknowledged(90), "")})
}

func fell() api.Task {
	x := taskOf(both(api.WayShuffle, 0), api.TaskFell, came(), opened())
	x.Err = api.ErrOver
	return x
}

func rooted(state int, outs ...api.Out) api.Task {
	x := taskOf(both(api.WayRoot), state, came(), outs)
	x.Rows = list("1 / 1 / 2 / 5")
	return x
}

// inStates are tasks in each state.
func inStates() []api.Task {
	return []api.Task{gathers(), sends(), done(), fell(), rooted(api.TaskDone), rooted(api.TaskDone, goes(0, acknowledged(0), "")), rooted(api.TaskSends, goes(0, ended(1, 0), ""))}
}

// streamless is a task of a state that has no streams, and so none that sends.
func streamless(state int) api.Task {
	x := taskOf(onAll(api.WayGather, scanU()), state, nil, nil)
	if state == api.TaskFell {
		x.Err = api.ErrFault
	}
	return x
}

// told is a message of the epoch.
func told(kind, from, to, frag int, p api.Packet) api.Msg {
	return api.Msg{Kind: kind, From: from, To: to, Epoch: epoch, Frag: frag, Packet: p}
}

func dataOf(seq uint64, b api.Batch) api.Packet {
	return api.Packet{Kind: api.PkData, Session: epoch, Seq: seq, Batch: b}
}

func ackOf(seq, limit uint64) api.Packet {
	return api.Packet{Kind: api.PkAck, Session: epoch, Seq: seq, Limit: limit}
}

// data is a batch to the task's node, of a fragment, from a node; ack is what the node wants of the task's rows.
func data(frag, from int, seq uint64, b api.Batch) api.Msg {
	return told(api.MsgData, from, 2, frag, dataOf(seq, b))
}

func ack(from int, seq, limit uint64) api.Msg {
	return told(api.MsgAck, from, 2, 4, ackOf(seq, limit))
}

// rowsOf is a batch of rows as they are written.
func rowsOf(s string) api.Batch {
	return api.Batch{Rows: list(s)}
}

// ones are so many rows of the number 1.
func ones(count int) []api.Row {
	return slices.Repeat(list("1"), count)
}
