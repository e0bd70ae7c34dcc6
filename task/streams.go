package task

import (
	"iter"
	"slices"

	"bowsprit/api"
	"bowsprit/exec"
	"bowsprit/link"
	"bowsprit/row"
)

// found is the stream of which something holds, where it stands; nil, if there is none.
func found[S any](streams []S, holds func(S) bool) *S {
	place := slices.IndexFunc(streams, holds)
	if place < 0 {
		return nil
	}
	return &streams[place]
}

// gather has a stream that comes hear a packet, and takes all that can be.
func gather(in *api.In, p api.Packet) {
	in.Receiver, _ = link.Hear(in.Receiver, p)
	for len(in.Receiver.Buffer) > 0 {
		var b api.Batch
		in.Receiver, b, _ = link.Take(in.Receiver)
		if len(in.Rows)+len(b.Rows) <= api.MaxList {
			in.Rows = append(in.Rows, b.Rows...)
		}
	}
}

// goOn has a task that gathers come to rows, or fall, if all came that there is to come.
func goOn(t *api.Task, tables [][]api.Row) {
	if t.State != api.TaskGathers || !hasAll(*t) {
		return
	}
	rows, e := comesTo(*t, tables)
	if e == api.OK {
		e = handOn(t, rows)
	}
	switch e {
	case api.OK:
		t.State = api.TaskSends
	case api.ErrOver:
		t.State, t.Err = api.TaskFell, api.ErrOver
	default:
		t.State, t.Err = api.TaskFell, api.ErrFault
	}
}

// comesTo is what the fragment comes to of all that was gathered. More rows than can be put together are an error, as they would be of Run.
func comesTo(t api.Task, tables [][]api.Row) ([]api.Row, api.Errno) {
	var lists [api.MaxFrags][][]api.Row
	for _, in := range t.Ins {
		lists[in.Frag] = append(lists[in.Frag], in.Rows)
	}
	inputs := make([][]api.Row, len(lists))
	for frag, l := range lists {
		rows, e := row.Merge(l...)
		if e != api.OK {
			return nil, e
		}
		inputs[frag] = rows
	}
	if t.Node == 0 {
		tables = nil
	}
	return exec.Run(t.Frag, tables, inputs)
}

// handOn has copies of rows be the query's, or be left to be put on the streams: several of these may be of one list. A stream to a node of which Goes says nothing has none.
func handOn(t *api.Task, rows []api.Row) api.Errno {
	if t.Frag.Way == api.WayRoot {
		t.Rows = copyOfRows(rows)
		return api.OK
	}
	lists, e := exec.Goes(t.Frag, rows, t.Sites)
	if e != api.OK {
		return e
	}
	for k := range t.Outs {
		out := &t.Outs[k]
		if place := max(out.To-1, 0); place < len(lists) {
			out.Rest = copyOfRows(lists[place])
		}
	}
	return api.OK
}

// fill has a task that sends put and close what there is room for; then it is done, if all that was acknowledged already.
func fill(t *api.Task) {
	if t.State != api.TaskSends {
		return
	}
	for k := range t.Outs {
		put(&t.Outs[k])
	}
	if isSent(*t) {
		t.State = api.TaskDone
	}
}

// put puts rows, and behind the last ones the end, till there is no room, or the stream has ended.
func put(out *api.Out) {
	for len(out.Rest) > 0 {
		count := min(len(out.Rest), api.MaxBatch)
		s, e := link.Put(out.Sender, out.Rest[:count])
		if e != api.OK {
			return
		}
		out.Sender, out.Rest = s, out.Rest[count:]
	}
	if s, e := link.Close(out.Sender); e == api.OK {
		out.Sender = s
	}
}

// said goes over what a task says: on each stream that goes out the packets of its tick, on each that comes what it wants.
func said(t api.Task, packets [][]api.Packet) iter.Seq[api.Msg] {
	return func(yield func(api.Msg) bool) {
		for k, out := range t.Outs {
			for _, p := range packets[k] {
				if !yield(api.Msg{Kind: api.MsgData, From: t.Node, To: out.To, Epoch: t.Epoch, Frag: t.Number, Packet: p}) {
					return
				}
			}
		}
		for _, in := range t.Ins {
			p, _ := link.Ack(in.Receiver)
			if !yield(api.Msg{Kind: api.MsgAck, From: t.Node, To: in.From, Epoch: t.Epoch, Frag: in.Frag, Packet: p}) {
				return
			}
		}
	}
}
