package task_test

import (
	"cmp"
	"encoding/binary"
	"hash/crc32"
	"math"
	"slices"

	"bowsprit/api"
	"bowsprit/exec"
	"bowsprit/frame"
	"bowsprit/link"
	"bowsprit/prop"
	"bowsprit/row"
)

// What the chapter says, reckoned apart from the program: what the layers below say of their own things is left to them, but batches are put here one by one, streams are told of the plan anew, and rows are put together, and go to nodes, by a hash, without them.

func rowsByRule(l []api.Row) bool {
	wrong := func(r api.Row) bool { return row.Check(r) != api.OK }
	return len(l) <= 8000 && !slices.ContainsFunc(l, wrong)
}

// isRising tells whether numbers rise, none twice.
func isRising(l []int) bool {
	sorted := slices.Clone(l)
	slices.Sort(sorted)
	return slices.Equal(slices.Compact(sorted), l)
}

// upTo tells whether a number is from least to most.
func upTo(n, least, most int) bool {
	for k := least; k <= most; k++ {
		if k == n {
			return true
		}
	}
	return false
}

// openedBy is the sender that Open answers, with another Limit.
func openedBy(epoch int, limit uint64) api.Sender {
	return api.Sender{Session: uint32(epoch), Base: 1, Limit: limit}
}

func checkByRule(t api.Task) api.Errno {
	_, _, nodes := prop.Kinds(t.Frag.Nodes)
	wrong := []bool{!upTo(t.Epoch, 1, 12), !upTo(t.Sites, 1, 8), !upTo(t.Number, 0, 29), !upTo(t.Node, 0, min(t.Sites, 100)), nodes != api.OK, !rowsByRule(t.Rows), !stateByRule(t)}
	var ins, outs []int
	for _, in := range t.Ins {
		wrong = append(wrong, !upTo(in.Frag, 0, 29), !upTo(in.From, 0, min(t.Sites, 100)), link.CheckReceiver(in.Receiver) != api.OK, !rowsByRule(in.Rows))
		wrong = append(wrong, in.Receiver.Session != uint32(t.Epoch), in.Receiver.Room != 8, len(in.Receiver.Buffer) > 0)
		ins = append(ins, in.Frag*100+in.From)
	}
	for _, out := range t.Outs {
		wrong = append(wrong, !upTo(out.To, 0, min(t.Sites, 100)), link.CheckSender(out.Sender) != api.OK, out.Sender.Session != uint32(t.Epoch), !rowsByRule(out.Rest))
		outs = append(outs, out.To)
	}
	if slices.Contains(wrong, true) || !isRising(ins) || !isRising(outs) {
		return api.ErrTask
	}
	return api.OK
}

// stateByRule is the table of states.
func stateByRule(t api.Task) bool {
	over, unsent, sent := true, true, true
	for _, in := range t.Ins {
		over = over && in.Receiver.Over
	}
	for _, out := range t.Outs {
		unsent = unsent && len(out.Rest) == 0 && same(out.Sender, openedBy(t.Epoch, out.Sender.Limit))
		sent = sent && len(out.Rest) == 0 && out.Sender.Ended && len(out.Sender.Queue) == 0
	}
	noRows := len(t.Rows) == 0
	mayRows := noRows || t.Frag.Way == 4
	return t.State == 1 && unsent && noRows && t.Err == 0 ||
		t.State == 2 && over && !sent && mayRows && t.Err == 0 ||
		t.State == 3 && over && sent && mayRows && t.Err == 0 ||
		t.State == 4 && over && unsent && noRows && (t.Err == api.ErrFault || t.Err == api.ErrOver)
}

// readerByRule is the first fragment that reads another one; -1: none.
func readerByRule(p api.Plan, frag int) int {
	return slices.IndexFunc(p.Frags, func(f api.Frag) bool {
		return slices.ContainsFunc(f.Nodes, func(n api.LNode) bool { return n.Op == api.LInput && n.Table == frag })
	})
}

// placesByRule are the nodes where a fragment runs; none, if there is no such fragment.
func placesByRule(p api.Plan, frag, nodes int) []int {
	switch {
	case frag < 0 || frag >= len(p.Frags):
		return nil
	case p.Frags[frag].At == api.AtOne:
		return []int{0}
	}
	return numbers(1, nodes)
}

func beginByRule(g given) answer {
	p := g.Plan
	if !upTo(g.Epoch, 1, 12) || !upTo(g.Sites, 1, 8) || len(p.Frags) > 30 || !slices.Contains(placesByRule(p, g.Number, g.Sites), g.Node) {
		return answer{Err: api.ErrArg}
	}
	if _, _, e := prop.Kinds(p.Frags[g.Number].Nodes); e != api.OK {
		return answer{Err: api.ErrArg}
	}
	t := api.Task{Epoch: g.Epoch, Sites: g.Sites, Number: g.Number, Node: g.Node, Frag: p.Frags[g.Number], State: 1}
	for frag := range p.Frags {
		if readerByRule(p, frag) == g.Number {
			for _, from := range placesByRule(p, frag, g.Sites) {
				t.Ins = append(t.Ins, api.In{Frag: frag, From: from, Receiver: api.Receiver{Session: uint32(g.Epoch), Next: 1, Room: 8}})
			}
		}
	}
	for _, to := range placesByRule(p, readerByRule(p, g.Number), g.Sites) {
		t.Outs = append(t.Outs, api.Out{To: to, Sender: openedBy(g.Epoch, 0)})
	}
	return answer{Task: t}
}

// filledByRule puts batch by batch, with the numbers that these have.
func filledByRule(t api.Task) api.Task {
	if t.State != 2 {
		return t
	}
	left := false
	for k := range t.Outs {
		s, rest := &t.Outs[k].Sender, &t.Outs[k].Rest
		for len(s.Queue) < 8 && !s.Ended && s.Base+uint64(len(s.Queue)) <= 1<<40 {
			b := api.Batch{Rows: (*rest)[:min(len(*rest), 4)]}
			*rest = (*rest)[len(b.Rows):]
			if s.Ended = len(b.Rows) == 0; s.Ended {
				b = api.Batch{End: true, Count: s.Base + uint64(len(s.Queue)) - 1}
			}
			s.Queue = append(s.Queue, b)
		}
		left = left || len(*rest)+len(s.Queue) > 0 || !s.Ended
	}
	if !left {
		t.State = 3
	}
	return t
}

func hearByRule(g given) answer {
	t, m := copyOf(g.Task), g.Msg
	if checkByRule(t) != api.OK {
		return answer{Err: api.ErrTask}
	}
	if frame.Check(m) != api.OK || m.Epoch != t.Epoch || m.To != t.Node {
		return answer{Task: t}
	}
	for k := range t.Ins {
		in := &t.Ins[k]
		if m.Kind != api.MsgData || m.Frag != in.Frag || m.From != in.From {
			continue
		}
		in.Receiver, _ = link.Hear(in.Receiver, m.Packet)
		for _, b := range in.Receiver.Buffer {
			in.Receiver.Over = b.End
			if all := slices.Concat(in.Rows, b.Rows); len(all) <= 8000 {
				in.Rows = all
			}
		}
		in.Receiver.Buffer = nil
	}
	for k := range t.Outs {
		if m.Kind == api.MsgAck && m.Frag == t.Number && m.From == t.Outs[k].To {
			t.Outs[k].Sender, _ = link.Acked(t.Outs[k].Sender, m.Packet)
			t = filledByRule(t)
		}
	}
	return answer{Task: copyOf(t)}
}

// nodeOf is the node (from 1 on) where a row lies by the hash of columns: CRC-32C of their bytes.
func nodeOf(r api.Row, cols []int, nodes int) int {
	var b []byte
	for _, c := range cols {
		v := r[c]
		b = append(b, byte(v.Kind))
		b = binary.BigEndian.AppendUint64(b, uint64(v.N))
		b = binary.BigEndian.AppendUint64(b, v.U)
		b = append(append(b, byte(len(v.S))), v.S...)
	}
	return 1 + int(crc32.Checksum(b, crc32.MakeTable(crc32.Castagnoli))%uint32(nodes))
}

func valuesByRule(a, b api.Value) int {
	return cmp.Or(cmp.Compare(a.Kind, b.Kind), cmp.Compare(a.N, b.N), cmp.Compare(a.U, b.U), cmp.Compare(a.S, b.S))
}

func sortedByRule(rows []api.Row) []api.Row {
	rows = slices.Clone(rows)
	slices.SortFunc(rows, func(a, b api.Row) int { return slices.CompareFunc(a, b, valuesByRule) })
	return rows
}

// ranByRule is what a task's fragment comes to of what it has; too many rows of one fragment are an end, too.
func ranByRule(t api.Task, tables [][]api.Row) ([]api.Row, api.Errno) {
	inputs := make([][]api.Row, 30)
	for _, in := range t.Ins {
		inputs[in.Frag] = sortedByRule(append(inputs[in.Frag], in.Rows...))
		if len(inputs[in.Frag]) > 8000 {
			return nil, api.ErrArg
		}
	}
	if t.Node == 0 {
		tables = [][]api.Row{}
	}
	rows, e := exec.Run(t.Frag, tables, inputs)
	if e == api.OK && t.Frag.Way != 4 {
		_, e = exec.Goes(t.Frag, rows, t.Sites) // whether they may go
	}
	return rows, e
}

// isHome tells whether a row goes to a node; of a fragment whose rows go to one node that is the node 0, or is counted as 1.
func isHome(t api.Task, r api.Row, to int) bool {
	switch t.Frag.Way {
	case api.WayShuffle:
		return nodeOf(r, t.Frag.Cols, t.Sites) == max(to, 1)
	case api.WayGather:
		return to <= 1
	}
	return t.Frag.Way == api.WayCast
}

func goByRule(g given) answer {
	t := copyOf(g.Task)
	if checkByRule(t) != api.OK {
		return answer{Err: api.ErrTask}
	}
	waits := func(in api.In) bool { return !in.Receiver.Over }
	if t.State != 1 || slices.ContainsFunc(t.Ins, waits) {
		return answer{Task: copyOf(filledByRule(t))}
	}
	rows, e := ranByRule(t, g.Tables)
	if e != api.OK {
		t.State, t.Err = 4, map[bool]api.Errno{true: api.ErrOver, false: api.ErrFault}[e == api.ErrOver]
		return answer{Task: t}
	}
	t.State = 2
	if t.Frag.Way == api.WayRoot {
		t.Rows = rows
	}
	for k, out := range t.Outs {
		for _, r := range rows {
			if isHome(t, r, out.To) {
				t.Outs[k].Rest = append(t.Outs[k].Rest, r)
			}
		}
	}
	return answer{Task: copyOf(filledByRule(t))}
}

func tickByRule(g given) answer {
	t := copyOf(g.Task)
	if checkByRule(t) != api.OK {
		return answer{Err: api.ErrTask}
	}
	var l []api.Msg
	for k := range t.Outs {
		var packets []api.Packet
		t.Outs[k].Sender, packets, _ = link.Tick(t.Outs[k].Sender)
		for _, p := range packets {
			l = append(l, api.Msg{Kind: 3, Frag: t.Number, To: t.Outs[k].To, Packet: p})
		}
	}
	for _, in := range t.Ins {
		next := in.Receiver.Next
		l = append(l, api.Msg{Kind: 4, Frag: in.Frag, To: in.From, Packet: api.Packet{Kind: 2, Session: uint32(t.Epoch), Seq: next, Limit: min(next+7, 1<<40)}})
	}
	for k := range l {
		l[k].Epoch, l[k].From = t.Epoch, t.Node
	}
	return answer{Task: t, Msgs: l}
}

// rules are what calls answer by rule, in the order of calls.
func rules() []func(g given) answer {
	return []func(g given) answer{
		func(g given) answer { return answer{Err: checkByRule(g.Task)} },
		func(g given) answer { return answer{Is: same(g.Task, g.Other)} },
		beginByRule, hearByRule, goByRule, tickByRule,
	}
}

// far are numbers far from all that there may be.
func far() []int {
	return []int{math.MinInt, -1 << 32, math.MaxInt, 1 << 31, 1<<32 + 1, 1<<32 + 3}
}
