package task_test

import (
	"slices"
	"strings"
	"testing"

	"bowsprit/api"
)

// deed is what is done to a task, and whether it may be then.
type deed struct {
	is bool
	do func(x *api.Task)
}

// held holds of a task with each deed done to it whether it may be.
func held(t *testing.T, x api.Task, deeds ...deed) {
	t.Helper()
	isTask(t, true, x)
	for k, d := range deeds {
		if y := changing(x, d.do); same(x, y) && !d.is {
			t.Errorf("deed %v does nothing to %v", k, short(x))
		} else {
			isTask(t, d.is, y)
		}
	}
}

// P25.1: tasks in each state, and such without streams.
func TestStates(t *testing.T) {
	for _, x := range inStates() {
		isTask(t, true, x)
		for state := -1; state <= 6; state++ {
			isTask(t, state == x.State, changing(x, func(x *api.Task) { x.State = state }))
		}
		for _, state := range far() {
			isTask(t, false, changing(x, func(x *api.Task) { x.State = state }))
		}
	}
	for state := 0; state <= 5; state++ {
		isTask(t, state == api.TaskGathers || state == api.TaskDone || state == api.TaskFell, streamless(state)) // one that sends has something to send
	}
	isTask(t, false, api.Task{})
}

// ofEpoch is a task with all its streams of an epoch.
func ofEpoch(x api.Task, n int) api.Task {
	x = copyOf(x)
	x.Epoch = n
	for k := range x.Ins {
		x.Ins[k].Receiver.Session = uint32(n)
	}
	for k := range x.Outs {
		x.Outs[k].Sender.Session = uint32(n)
	}
	return x
}

// P25.1: Epoch, just and by one more.
func TestEpochs(t *testing.T) {
	for _, x := range append(inStates(), streamless(api.TaskGathers)) {
		for n := -2; n <= api.MaxEpochs+2; n++ {
			isTask(t, n >= 1 && n <= api.MaxEpochs, ofEpoch(x, n))
			isTask(t, n == epoch || len(x.Ins)+len(x.Outs) == 0 && n >= 1 && n <= api.MaxEpochs, changing(x, func(x *api.Task) { x.Epoch = n }))
		}
		for _, n := range far() {
			isTask(t, false, ofEpoch(x, n))
		}
	}
}

// P25.1: Sites, Number and Node, just and by one more.
func TestPlaces(t *testing.T) {
	near := taskOf(both(api.WayCast), api.TaskGathers, []api.In{comes(0, 0, waits(1), ""), comes(0, 1, waits(1), "")}, []api.Out{goes(0, fresh(0), ""), goes(1, fresh(0), "")})
	for _, x := range []api.Task{streamless(api.TaskGathers), near} {
		for n := -1; n <= api.MaxSites+2; n++ {
			isTask(t, n >= 1 && n <= api.MaxSites, changing(x, func(x *api.Task) { x.Sites, x.Node = n, min(1, n) }))
			for node := -1; node <= n+1; node++ {
				isTask(t, n >= 1 && n <= api.MaxSites && node >= 0 && node <= n, changing(x, func(x *api.Task) { x.Sites, x.Node = n, node }))
			}
		}
		for _, n := range far() {
			held(t, x, deed{false, func(x *api.Task) { x.Sites = n }}, deed{false, func(x *api.Task) { x.Node = n }}, deed{false, func(x *api.Task) { x.Number = n }})
		}
		for n := -1; n <= api.MaxFrags+1; n++ {
			isTask(t, n >= 0 && n < api.MaxFrags, changing(x, func(x *api.Task) { x.Number = n }))
		}
	}
}

// goodFrags have nodes that may be, wrongNodes may not be.
func goodFrags() []api.Frag {
	return []api.Frag{
		onAll(api.WayGather, scanU()), root(input(29, ki)), onOne(api.WayGather, scanU()), both(api.WayShuffle), both(api.WayShuffle, 0, 0, 7, -1), both(0), both(5), both(-4, 1),
		{Nodes: steps(scanU())}, {Nodes: steps(input(0, ks)), At: 9, Way: api.WayGather, Cols: []int{3}}, onAll(api.WayShuffle, scanU(), partial(nil, agg(api.AggSum, col(0)))),
		onAll(api.WayCast, scan(3, ki, kb)), onAll(api.WayCast, chain(api.MaxSteps)...),
	}
}

// chain is so many nodes, one over the other.
func chain(count int) []api.LNode {
	l := []api.LNode{scanU()}
	for len(l) < count {
		l = append(l, distinct())
	}
	return l
}

func wrongNodes() [][]api.LNode {
	crossed := steps(scanU(), scanU(), union())
	crossed[2].A, crossed[2].B = 1, 0
	return [][]api.LNode{
		nil, {}, steps(chain(api.MaxSteps + 1)...), steps(scanU(), scanU()), {{}}, steps(union()), crossed, steps(scan(0)), steps(scan(0, ks)), steps(scan(-1, ki)),
		steps(input(30, ki)), steps(input(-1, ki)), steps(input(0)), steps(input(0, 5)), steps(scanU(), filter(num(1))), steps(scanU(), filter(col(1))), steps(scanU(), picked(1)),
		steps(scanU(), sortBy(-1), distinct()), steps(scanU(), final(0, api.AggAll)), steps(input(0, ki, ks), final(2)), steps(input(0, ks), distinct()), steps(scanU(), group(nil)),
		{{Op: 12, A: -1, B: -1}}, {{Op: api.LScan, A: -1, B: -1, Kinds: []int{ki}, Limit: 1}},
	}
}

// P25.1: the fragment's nodes are asked, and nothing else of it.
func TestFrags(t *testing.T) {
	for _, x := range []api.Task{gathers(), sends(), done(), fell(), streamless(api.TaskGathers)} {
		for _, f := range goodFrags() {
			isTask(t, true, changing(x, func(x *api.Task) { x.Frag = f }))
		}
		for _, nodes := range wrongNodes() {
			isTask(t, false, changing(x, func(x *api.Task) { x.Frag.Nodes = nodes }))
		}
	}
	for _, nodes := range wrongNodes() {
		isTask(t, false, changing(rooted(api.TaskDone), func(x *api.Task) { x.Frag.Nodes = nodes }))
	}
}

// P25.1: streams that come stand by rising Frag, those of one Frag by rising From; none twice.
func TestOrderOfIns(t *testing.T) {
	in := func(l ...[2]int) (ins []api.In) {
		for _, x := range l {
			ins = append(ins, comes(x[0], x[1], over(1), "1"))
		}
		return ins
	}
	for _, base := range []api.Task{gathers(), sends(), done(), fell()} {
		is := func(want bool, l ...[2]int) {
			t.Helper()
			isTask(t, want, changing(base, func(x *api.Task) { x.Ins = in(l...) }))
		}
		is(true)
		is(true, [2]int{0, 0})
		is(true, [2]int{29, 4})
		is(true, [2]int{0, 0}, [2]int{0, 1}, [2]int{0, 2}, [2]int{0, 4}, [2]int{1, 0}, [2]int{5, 0}, [2]int{5, 3}, [2]int{29, 1})
		is(true, [2]int{3, 4}, [2]int{4, 0}) // From falls, but Frag rises
		is(false, [2]int{3, 2}, [2]int{3, 2})
		is(false, [2]int{3, 2}, [2]int{3, 1})
		is(false, [2]int{3, 1}, [2]int{2, 2})
		is(false, [2]int{3, 1}, [2]int{2, 1})
		is(false, [2]int{0, 1}, [2]int{3, 1}, [2]int{3, 2}, [2]int{3, 2})
		is(false, [2]int{0, 1}, [2]int{0, 2}, [2]int{0, 1}, [2]int{0, 3})
		is(false, [2]int{0, 1}, [2]int{1, 1}, [2]int{0, 2})
		for from := -1; from <= sites+1; from++ {
			is(from >= 0 && from <= sites, [2]int{3, from})
			is(from >= 0 && from <= sites, [2]int{2, 4}, [2]int{3, from}, [2]int{4, 0})
		}
		for frag := -1; frag <= api.MaxFrags+1; frag++ {
			is(frag >= 0 && frag < api.MaxFrags, [2]int{frag, 0})
		}
		for _, n := range far() {
			is(false, [2]int{3, n})
			is(false, [2]int{n, 3})
		}
	}
	var all [][2]int
	for frag := range api.MaxFrags {
		for from := range api.MaxSites + 1 {
			all = append(all, [2]int{frag, from})
		}
	}
	x := changing(gathers(), func(x *api.Task) { x.Sites, x.Ins = api.MaxSites, in(all...) })
	isTask(t, true, x)
	for k := range len(all) - 1 {
		isTask(t, false, changing(x, func(x *api.Task) { x.Ins[k], x.Ins[k+1] = x.Ins[k+1], x.Ins[k] }))
	}
}

// P25.1: streams that go out stand by rising To; none twice.
func TestOrderOfOuts(t *testing.T) {
	out := func(base api.Task, l ...int) (outs []api.Out) {
		for _, to := range l {
			outs = append(outs, base.Outs[0])
			outs[len(outs)-1].To = to
		}
		return outs
	}
	for _, base := range []api.Task{gathers(), sends(), done(), fell()} {
		is := func(want bool, l ...int) {
			t.Helper()
			isTask(t, want, changing(base, func(x *api.Task) { x.Outs = out(base, l...) }))
		}
		is(base.State != api.TaskSends)
		is(true, 0)
		is(true, 0, 1, 2, 3, 4)
		is(true, 1, 4)
		is(false, 1, 1)
		is(false, 2, 1)
		is(false, 0, 1, 3, 2)
		is(false, 0, 1, 2, 2)
		is(false, 4, 3, 2, 1, 0)
		for to := -1; to <= sites+1; to++ {
			is(to >= 0 && to <= sites, to)
		}
		for _, n := range far() {
			is(false, n)
		}
	}
	x := changing(gathers(), func(x *api.Task) { x.Sites, x.Outs = api.MaxSites, out(*x, numbers(0, api.MaxSites)...) })
	isTask(t, true, x)
}

// P25.1: a receiver may be by itself, is of the session Epoch, with Room MaxHold, and nothing in its Buffer.
func TestReceivers(t *testing.T) {
	r := func(is bool, do func(r *api.Receiver)) deed {
		return deed{is, func(x *api.Task) { do(&x.Ins[1].Receiver) }}
	}
	held(t, gathers(),
		r(true, func(r *api.Receiver) { *r = waits(1) }), r(true, func(r *api.Receiver) { *r = waits(1, 2, 8) }), r(true, func(r *api.Receiver) { *r = waits(api.MaxSeq + 1) }), r(true, func(r *api.Receiver) { *r = over(api.MaxSeq - 1) }),
		r(true, func(r *api.Receiver) { r.Ahead[1].Batch = end(6) }), r(true, func(r *api.Receiver) { r.Ahead = nil }),
		r(false, func(r *api.Receiver) { *r = waits(1, 2, 9) }), r(false, func(r *api.Receiver) { *r = waits(3, 3) }), r(false, func(r *api.Receiver) { *r = waits(0) }), r(false, func(r *api.Receiver) { *r = waits(api.MaxSeq + 2) }),
		r(false, func(r *api.Receiver) { r.Session++ }), r(false, func(r *api.Receiver) { r.Session-- }), r(false, func(r *api.Receiver) { r.Session = 0 }), r(false, func(r *api.Receiver) { r.Session += 1 << 31 }),
		r(false, func(r *api.Receiver) { r.Room = api.MaxHold - 1 }), r(false, func(r *api.Receiver) { r.Room = api.MaxHold + 1 }), r(false, func(r *api.Receiver) { r.Room = 0 }), r(false, func(r *api.Receiver) { r.Room = 1 << 32 }),
		r(false, func(r *api.Receiver) { r.Buffer = []api.Batch{batch(2)} }), r(false, func(r *api.Receiver) { r.Buffer, r.Ahead = []api.Batch{end(1)}, nil }), r(false, func(r *api.Receiver) { r.Buffer = []api.Batch{{}} }),
		r(false, func(r *api.Receiver) { r.Over = true }), r(false, func(r *api.Receiver) { r.Ahead[0].Batch = end(4) }), r(false, func(r *api.Receiver) { r.Ahead[0].Batch = api.Batch{} }),
		r(false, func(r *api.Receiver) { *r = api.Receiver{} }), r(false, func(r *api.Receiver) { *r = changing(over(0), func(r *api.Receiver) { r.Next = 1 }) }),
	)
	buffered := changing(waits(9), func(r *api.Receiver) { r.Buffer = []api.Batch{batch(7), batch(8)} }) // one that may be, if it were no task's
	held(t, gathers(), r(false, func(r *api.Receiver) { *r = buffered }))
}

// P25.1: in each state but the first one all receivers are Over, whichever of them.
func TestNotOver(t *testing.T) {
	for _, x := range inStates()[1:] {
		for k := range x.Ins {
			held(t, x, deed{false, func(x *api.Task) { x.Ins[k].Receiver.Over = false }}, deed{false, func(x *api.Task) { x.Ins[k].Receiver = waits(2, 3) }}, deed{false, func(x *api.Task) { x.Ins[k].Receiver = waits(1) }})
		}
	}
	x := changing(gathers(), func(x *api.Task) { x.Ins = came() })
	for k := range x.Ins {
		held(t, x, deed{true, func(x *api.Task) { x.Ins[k].Receiver.Over = false }})
	}
}

// wrongRows are rows that may not be, goodRows are such that may.
func wrongRows() []api.Row {
	return []api.Row{
		{{Kind: -1}}, {{Kind: 5}}, {{N: 1}}, {{Kind: kb, N: 2}}, {{Kind: ki, S: "5"}}, {number(1), {Kind: ki, U: 1}}, {text(strings.Repeat("a", api.MaxText+1))},
		slices.Repeat(api.Row{null}, api.MaxWidth+1), append(slices.Repeat(api.Row{yes}, api.MaxWidth-1), api.Value{Kind: ks, S: "a"}),
	}
}

func goodRows() []api.Row {
	return []api.Row{{}, nil, {null}, {under(-5)}, {text(strings.Repeat("\xff", api.MaxText))}, slices.Repeat(api.Row{yes}, api.MaxWidth)}
}

// P25.1: rows that were taken, that are not put yet, and that the query came to: as many as a list has, and one more; such as may be, and such as may not.
func TestLists(t *testing.T) {
	put := map[string]func(x *api.Task, rows []api.Row){
		"Ins":  func(x *api.Task, rows []api.Row) { x.Ins[2].Rows = rows },
		"Outs": func(x *api.Task, rows []api.Row) { x.Outs[0].Rest = rows },
		"Rows": func(x *api.Task, rows []api.Row) { x.Rows = rows },
	}
	rootSends := changing(sends(), func(x *api.Task) { x.Frag = both(api.WayRoot) })
	where := map[string][]api.Task{"Ins": {gathers(), sends(), done(), fell(), rooted(api.TaskDone)}, "Outs": {sends(), rootSends}, "Rows": {rooted(api.TaskDone), rootSends}}
	for name, tasks := range where {
		for _, x := range tasks {
			is := func(want bool, rows ...api.Row) {
				t.Helper()
				isTask(t, want, changing(x, func(x *api.Task) { put[name](x, rows) }))
			}
			is(true)
			is(true, goodRows()...)
			is(true, ones(api.MaxList)...)
			is(false, ones(api.MaxList+1)...)
			for _, r := range wrongRows() {
				is(false, r)
				is(false, list("1")[0], r)
				is(false, r, list("1")[0])
			}
		}
	}
}

// P25.1: a sender may be by itself, and is of the session Epoch.
func TestSenders(t *testing.T) {
	s := func(is bool, do func(s *api.Sender)) deed {
		return deed{is, func(x *api.Task) { do(&x.Outs[1].Sender) }}
	}
	all := func(do func(s *api.Sender)) []deed {
		return []deed{s(false, do)}
	}
	for _, x := range []api.Task{gathers(), sends(), done(), fell()} {
		held(t, x, slices.Concat(
			all(func(s *api.Sender) { s.Session++ }), all(func(s *api.Sender) { s.Session-- }), all(func(s *api.Sender) { s.Session = 0 }), all(func(s *api.Sender) { s.Session += 1 << 31 }),
			all(func(s *api.Sender) { s.Base = 0 }), all(func(s *api.Sender) { s.Base = api.MaxSeq + 1 }), all(func(s *api.Sender) { s.Sent += 9 }), all(func(s *api.Sender) { s.Limit = api.MaxSeq + 1 }),
			all(func(s *api.Sender) { s.Timer = -1 }), all(func(s *api.Sender) { s.Timer = 1 }), all(func(s *api.Sender) { s.Timer = api.Again }), all(func(s *api.Sender) { s.Queue = []api.Batch{{}} }),
			all(func(s *api.Sender) { s.Queue = slices.Repeat([]api.Batch{batch(1)}, api.MaxHold+1) }), all(func(s *api.Sender) { *s = api.Sender{} }), all(func(s *api.Sender) { s.Queue, s.Ended = []api.Batch{end(s.Base - 1)}, false }),
			all(func(s *api.Sender) { s.Limit = s.Sent; s.Sent++ }),
		)...)
	}
}
