package worker_test

import (
	"encoding/binary"
	"hash/crc32"
	"slices"

	"bowsprit/api"
	"bowsprit/catalog"
	"bowsprit/frame"
	"bowsprit/prop"
	"bowsprit/row"
	"bowsprit/task"
)

// What the chapter says, reckoned apart from the program: what the layers below say of their own things is left to them, but sets are lists here, tasks are found by their names, and what is said to whom is told of all messages at once.

// upTo tells whether a number is from least to most.
func upTo(n, least, most int) bool {
	for k := least; k <= most; k++ {
		if k == n {
			return true
		}
	}
	return false
}

// bits are the places of the bits that a set has.
func bits(set uint32) (l []int) {
	for place := 0; set > 0; place++ {
		if set%2 == 1 {
			l = append(l, place)
		}
		set /= 2
	}
	return l
}

// setOf is the set that has just these bits.
func setOf(l ...int) (set uint32) {
	for _, place := range slices.Compact(slices.Sorted(slices.Values(l))) {
		one := uint32(1)
		for range place {
			one *= 2
		}
		set += one
	}
	return set
}

func setsByRule(w api.Worker) bool {
	all := append(bits(w.Has), bits(w.Gone)...)
	slices.Sort(all)
	wrong := func(epoch int) bool { return !upTo(epoch, 1, 12) }
	return !slices.ContainsFunc(all, wrong) && len(slices.Compact(slices.Clone(all))) == len(all)
}

func tablesByRule(c api.Catalog, node int, tables [][]api.Row) bool {
	if node == 0 || len(tables) != len(c.Tables) {
		return node == 0 && len(tables) == 0
	}
	for k, rows := range tables {
		if len(rows) > 12 {
			return false
		}
		for _, r := range rows {
			if row.Check(r) != api.OK || len(r) != len(c.Tables[k].Columns) {
				return false
			}
			for at, v := range r {
				if v != null && v.Kind != c.Tables[k].Columns[at].Kind {
					return false
				}
			}
		}
	}
	return true
}

// name says which of a worker's tasks one is: they stand in the order of these.
func name(x api.Task) int {
	return x.Epoch*100 + x.Number
}

func tasksByRule(w api.Worker) bool {
	var l []int
	for _, x := range w.Tasks {
		if task.Check(x) != api.OK || x.Sites != w.Sites || x.Node != w.Node || !slices.Contains(bits(w.Has), x.Epoch) {
			return false
		}
		l = append(l, name(x))
	}
	return slices.IsSorted(l) && len(slices.Compact(slices.Clone(l))) == len(l)
}

func checkByRule(w api.Worker) api.Errno {
	if upTo(w.Sites, 1, 8) && upTo(w.Node, 0, w.Sites) && catalog.Check(w.Catalog) == api.OK && tablesByRule(w.Catalog, w.Node, w.Tables) && setsByRule(w) && tasksByRule(w) {
		return api.OK
	}
	return api.ErrWorker
}

func newByRule(g given) answer {
	switch {
	case catalog.Check(g.Catalog) != api.OK:
		return answer{Err: api.ErrCatalog}
	case !upTo(g.Sites, 1, 8) || !upTo(g.Node, 0, g.Sites):
		return answer{Err: api.ErrArg}
	case !tablesByRule(g.Catalog, g.Node, g.Tables):
		return answer{Err: api.ErrBase}
	}
	return answer{Worker: api.Worker{Node: g.Node, Sites: g.Sites, Catalog: g.Catalog, Tables: g.Tables}}
}

// begunByRule are the tasks that a plan has at a worker's node: each fragment is tried there.
func begunByRule(w api.Worker, p api.Plan, epoch int) (l []api.Task) {
	for frag := range p.Frags {
		if x, e := task.Begin(p, epoch, w.Sites, frag, w.Node); e == api.OK {
			l = append(l, x)
		}
	}
	return l
}

// inTurn are tasks in the order in which a worker has them.
func inTurn(l []api.Task) []api.Task {
	l = slices.Clone(l)
	slices.SortFunc(l, func(a, b api.Task) int { return name(a) - name(b) })
	return l
}

// withEpoch and withoutEpoch say what becomes of a set.
func withEpoch(set uint32, epoch int) uint32 {
	return setOf(append(bits(set), epoch)...)
}

func withoutEpoch(set uint32, epoch int) uint32 {
	other := func(n int) bool { return n == epoch }
	return setOf(slices.DeleteFunc(bits(set), other)...)
}

// heardByRule is what becomes of a worker by a message, and of which Kind is what it says to that; 0, if it says nothing.
func heardByRule(w api.Worker, m api.Msg) (api.Worker, int) {
	w = copyOf(w)
	if frame.Check(m) != api.OK || m.To != w.Node {
		return w, 0
	}
	of := func(x api.Task) bool { return x.Epoch == m.Epoch }
	has, gone := slices.Contains(bits(w.Has), m.Epoch), slices.Contains(bits(w.Gone), m.Epoch)
	_, _, e := prop.Check(m.Plan, w.Catalog)
	switch {
	case m.Kind == 1 && m.From == 0 && m.Sites == w.Sites && gone:
		return w, 7
	case m.Kind == 1 && m.From == 0 && m.Sites == w.Sites && has:
		return w, 2
	case m.Kind == 1 && m.From == 0 && m.Sites == w.Sites && e == api.OK:
		w.Has = withEpoch(w.Has, m.Epoch)
		w.Tasks = inTurn(append(w.Tasks, begunByRule(w, m.Plan, m.Epoch)...))
		return w, 2
	case m.Kind == 6 && m.From == 0:
		w.Has, w.Gone = withoutEpoch(w.Has, m.Epoch), withEpoch(w.Gone, m.Epoch)
		w.Tasks = slices.DeleteFunc(w.Tasks, of)
		return w, 7
	case m.Kind == 3 || m.Kind == 4:
		for k, x := range w.Tasks {
			if of(x) {
				w.Tasks[k], _ = task.Hear(x, m)
			}
		}
	}
	return w, 0
}

func hearByRule(g given) answer {
	if checkByRule(g.Worker) != api.OK {
		return answer{Err: api.ErrWorker}
	}
	w, kind := heardByRule(g.Worker, g.Msg)
	a := answer{Worker: w}
	if kind > 0 && g.Msg.From != w.Node { // to itself it says nothing
		a.Msgs = []api.Msg{{Kind: kind, From: w.Node, Epoch: g.Msg.Epoch}}
	}
	return copyOf(a)
}

func tickByRule(g given) answer {
	w := copyOf(g.Worker)
	if checkByRule(w) != api.OK {
		return answer{Err: api.ErrWorker}
	}
	var all []api.Msg
	for k, x := range w.Tasks { // no task's tables, nor what it says, hang on another one's
		x, _ = task.Go(x, w.Tables)
		x, l, _ := task.Tick(x)
		w.Tasks[k], all = x, append(all, l...)
	}
	for _, m := range all {
		w, _ = heardByRule(w, m)
	}
	l := slices.DeleteFunc(all, func(m api.Msg) bool { return m.To == w.Node })
	for epoch := 1; epoch <= 12 && w.Node > 0; epoch++ {
		if e := fellByRule(w, epoch); e != api.OK {
			l = append(l, api.Msg{Kind: 5, From: w.Node, Epoch: epoch, Err: e})
		}
	}
	return copyOf(answer{Worker: w, Msgs: l})
}

// fellByRule goes through the tasks from the last one on.
func fellByRule(w api.Worker, epoch int) (e api.Errno) {
	for _, x := range slices.Backward(w.Tasks) {
		if x.Epoch == epoch && x.State == 4 {
			e = x.Err
		}
	}
	return e
}

func knowsByRule(g given) answer {
	switch {
	case checkByRule(g.Worker) != api.OK:
		return answer{}
	case slices.Contains(bits(g.Worker.Has), g.Epoch):
		return answer{Knows: 1}
	case slices.Contains(bits(g.Worker.Gone), g.Epoch):
		return answer{Knows: 2}
	}
	return answer{}
}

func rowsByRule(g given) (a answer) {
	if checkByRule(g.Worker) != api.OK {
		return answer{}
	}
	for _, x := range slices.Backward(g.Worker.Tasks) {
		if x.Epoch == g.Epoch && x.State == 3 && x.Frag.Way == 4 {
			a = answer{Rows: x.Rows, Is: true}
		}
	}
	return a
}

// rules are what calls answer by rule, in the order of calls.
func rules() []func(g given) answer {
	return []func(g given) answer{
		func(g given) answer { return answer{Err: checkByRule(g.Worker)} },
		func(g given) answer { return answer{Is: same(g.Worker, g.Other)} },
		newByRule, hearByRule, tickByRule, knowsByRule, rowsByRule,
		func(g given) answer {
			if e := fellByRule(g.Worker, g.Epoch); checkByRule(g.Worker) == api.OK && e != api.OK {
				return answer{Err: e, Is: true}
			}
			return answer{}
		},
	}
}

// readerByRule is the first fragment that reads another one; -1: none.
func readerByRule(p api.Plan, frag int) int {
	return slices.IndexFunc(p.Frags, func(f api.Frag) bool {
		return slices.ContainsFunc(f.Nodes, func(n api.LNode) bool { return n.Op == api.LInput && n.Table == frag })
	})
}

// nodeOf is the node (from 1 on) where a row lies by the hash of columns: CRC-32C of their bytes.
func nodeOf(r api.Row, cols []int, nodes int) int {
	var b []byte
	for _, c := range cols {
		v := r[c]
		b = append(b, byte(v.Kind))
		b = binary.BigEndian.AppendUint64(b, uint64(v.N))
		b = binary.BigEndian.AppendUint64(b, v.U)
		b = append(append(b, byte(len(v.S))), v.S...)
	}
	return 1 + int(crc32.Checksum(b, crc32.MakeTable(crc32.Castagnoli))%uint32(nodes))
}
