package task_test

import (
	"slices"
	"testing"

	"bowsprit/api"
)

// ready is a task of a fragment that gathers, to which all came.
func ready(f api.Frag, outs ...api.Out) api.Task {
	return taskOf(f, api.TaskGathers, came(), outs)
}

// put is a sender as Open has it, but for its Limit, that was filled with rows, and those that are left.
func put(limit uint64, rows []api.Row) (api.Sender, []api.Row) {
	s := fresh(limit)
	for len(rows) > 0 && len(s.Queue) < 8 {
		n := min(4, len(rows))
		s.Queue, rows = append(s.Queue, api.Batch{Rows: rows[:n]}), rows[n:]
	}
	if len(rows) == 0 && len(s.Queue) < 8 {
		s.Queue, s.Ended = append(s.Queue, end(uint64(len(s.Queue)))), true
	}
	return s, rows
}

// sent is a task that has gone on, and has rows for each of its streams.
func sent(x api.Task, rows ...[]api.Row) api.Task {
	x = copyOf(x)
	x.State = api.TaskSends
	for k := range x.Outs {
		x.Outs[k].Sender, x.Outs[k].Rest = put(x.Outs[k].Sender.Limit, rows[k])
	}
	return copyOf(x)
}

// fallen is one that fell.
func fallen(x api.Task, e api.Errno) api.Task {
	x = copyOf(x)
	x.State, x.Err = api.TaskFell, e
	return x
}

// P25.4: a task that gathers goes on when all of its receivers are Over, and not ahead of that, whichever is missing.
func TestGoWhenAllCame(t *testing.T) {
	x := ready(both(api.WayGather), goes(0, fresh(5), ""))
	goesOn(t, x, nil, sent(x, list("1 / 1 / 2 / 5")))
	for _, missing := range []api.Receiver{waits(1), waits(2, 3), waits(9)} {
		for k := range x.Ins {
			y := changing(x, func(x *api.Task) { x.Ins[k].Receiver = missing })
			goesOn(t, y, nil, y)
		}
	}
	goesOn(t, gathers(), nil, gathers())
}

// P25.4: without streams that come it goes on at once: over its node's tables, over none, over others; of the node 0 there are none.
func TestGoWithoutIns(t *testing.T) {
	x := taskOf(onAll(api.WayGather, scanU()), api.TaskGathers, nil, []api.Out{goes(0, fresh(0), "")})
	goesOn(t, x, [][]api.Row{nil, list("3 / 1 / 2")}, sent(x, list("1 / 2 / 3")))
	goesOn(t, x, [][]api.Row{list("'a' 1"), list("7"), list("1")}, sent(x, list("7")))
	goesOn(t, x, [][]api.Row{nil, nil}, sent(x, nil))
	for _, tables := range [][][]api.Row{nil, {list("1")}, {list("1"), list("'a'")}, {nil, list("1 2")}, {nil, {{}}}, {nil, {{{Kind: ki, S: "a"}}}}, {nil, ones(api.MaxList + 1)}} {
		goesOn(t, x, tables, fallen(x, api.ErrFault)) // it can't run
	}
	goesOn(t, x, [][]api.Row{nil, ones(api.MaxList)}, fallen(x, api.ErrOver))
	goesOn(t, x, [][]api.Row{nil, ones(api.MaxRows + 1)}, fallen(x, api.ErrOver))
	goesOn(t, x, [][]api.Row{nil, ones(api.MaxRows)}, sent(x, ones(api.MaxRows)))
	zero := changing(x, func(x *api.Task) { x.Node = 0 })
	goesOn(t, zero, [][]api.Row{nil, list("1")}, fallen(zero, api.ErrFault))
	empty := taskOf(onOne(api.WayGather, input(7, ki)), api.TaskGathers, nil, []api.Out{goes(0, fresh(0), "")})
	goesOn(t, empty, nil, sent(empty, nil)) // what no stream comes of has no rows
}

// P25.4: all rows that came of a fragment, from whichever nodes, are put together and sorted, and stand at its number.
func TestGoOverInputs(t *testing.T) {
	ins := []api.In{comes(0, 1, over(2), "5 / 1 / 9"), comes(0, 2, over(0), ""), comes(0, 4, over(1), "1 / 3"), comes(11, 0, over(1), "7"), comes(29, 3, over(9), "'b' / 'a'")}
	first := taskOf(onAll(api.WayGather, input(0, ki)), api.TaskGathers, ins, []api.Out{goes(0, fresh(0), "")})
	goesOn(t, first, nil, sent(first, list("1 / 1 / 3 / 5 / 9")))
	last := changing(first, func(x *api.Task) { x.Frag = onAll(api.WayGather, input(29, kt)) })
	goesOn(t, last, nil, sent(last, list("'a' / 'b'")))
	pairs := changing(first, func(x *api.Task) {
		x.Frag = onAll(api.WayGather, input(11, ki), input(29, kt), each(), sortBy(-1, down(1)))
	})
	goesOn(t, pairs, nil, sent(pairs, list("7 'b' / 7 'a'"))) // as the fragment has them
	none := changing(first, func(x *api.Task) { x.Frag = onAll(api.WayGather, input(10, kt)) })
	goesOn(t, none, nil, sent(none, nil))
	wrong := changing(first, func(x *api.Task) { x.Frag = onAll(api.WayGather, input(29, ki)) })
	goesOn(t, wrong, nil, fallen(wrong, api.ErrFault))
	mixed := changing(first, func(x *api.Task) {
		x.Frag = onAll(api.WayGather, scanU(), input(0, ki), union(), sortBy(4))
	})
	goesOn(t, mixed, [][]api.Row{nil, list("2 / 2")}, sent(mixed, list("1 / 1 / 2 / 2")))
}

// P25.4: as many rows as a list has, from several nodes, are put together; one more are not, and the task falls as of all that can't run.
func TestGoOverTooMany(t *testing.T) {
	count := onAll(api.WayGather, input(0, ki), group(nil, agg(api.AggAll)))
	for _, more := range []int{0, 1} {
		ins := []api.In{{Frag: 0, From: 1, Receiver: over(1), Rows: ones(api.MaxList - 3)}, {Frag: 0, From: 2, Receiver: over(1), Rows: ones(3 + more)}}
		x := taskOf(count, api.TaskGathers, ins, []api.Out{goes(0, fresh(0), "")})
		goesOn(t, x, nil, fallen(x, []api.Errno{api.ErrOver, api.ErrFault}[more])) // as many as a list has are too much for a fragment, but it can run
	}
}

// P25.4: of each Way: to all nodes, each row to one by its hash, to the node 0, or nowhere: then they are the query's.
func TestGoOfEachWay(t *testing.T) {
	rows := list("1 / 1 / 2 / 5")
	outs := func(to ...int) (l []api.Out) {
		for _, n := range to {
			l = append(l, goes(n, fresh(uint64(n)), ""))
		}
		return l
	}
	at := func(node int) []api.Row {
		return slices.DeleteFunc(slices.Clone(rows), func(r api.Row) bool { return nodeOf(r, []int{0}, sites) != node })
	}
	x := ready(both(api.WayCast), outs(1, 2, 3, 4)...)
	goesOn(t, x, nil, sent(x, rows, rows, rows, rows))
	x = ready(both(api.WayShuffle, 0), outs(1, 2, 3, 4)...)
	goesOn(t, x, nil, sent(x, at(1), at(2), at(3), at(4)))
	if len(at(1)) == 4 || len(at(2)) == 4 || len(at(3)) == 4 || len(at(4)) == 4 {
		t.Error("all rows lie at one node")
	}
	x = ready(both(api.WayGather), outs(0)...)
	goesOn(t, x, nil, sent(x, rows))
	x = ready(both(api.WayRoot))
	goesOn(t, x, nil, rooted(api.TaskDone))
	for _, x := range []api.Task{ready(both(api.WayCast)), ready(both(api.WayShuffle, 0)), ready(both(api.WayGather))} { // nobody reads
		goesOn(t, x, nil, changing(x, func(x *api.Task) { x.State = api.TaskDone }))
	}
}

// P25.4: streams that no plan that may be has: some nodes' alone, the node 0 beside the others; where Goes says nothing of a node nothing goes.
func TestGoOfOddStreams(t *testing.T) {
	rows := list("1 / 1 / 2 / 5")
	at := func(node int) []api.Row {
		return slices.DeleteFunc(slices.Clone(rows), func(r api.Row) bool { return nodeOf(r, []int{0}, sites) != node })
	}
	outs := []api.Out{goes(0, fresh(1), ""), goes(1, fresh(2), ""), goes(3, fresh(3), "")}
	x := ready(both(api.WayCast), outs...)
	goesOn(t, x, nil, sent(x, rows, rows, rows))
	x = ready(both(api.WayShuffle, 0), outs...)
	goesOn(t, x, nil, sent(x, at(1), at(1), at(3)))
	x = ready(both(api.WayGather), outs...)
	goesOn(t, x, nil, sent(x, rows, rows, nil))
	x = ready(both(api.WayRoot), outs...)
	goesOn(t, x, nil, changing(sent(x, nil, nil, nil), func(x *api.Task) { x.Rows = rows }))
}

// P25.4: runs that come to an end, and rows that can't go on: of what is too much it falls so, of all else by a fault.
func TestGoThatFalls(t *testing.T) {
	falls := func(e api.Errno, f api.Frag) {
		t.Helper()
		for _, outs := range [][]api.Out{nil, {goes(0, fresh(5), "")}, opened()} {
			x := ready(f, outs...)
			goesOn(t, x, nil, fallen(x, e))
			goesOn(t, fallen(x, e), nil, fallen(x, e))
		}
	}
	eachWithEach := []api.LNode{input(0, ki), input(2, ki), union(), input(0, ki), input(2, ki), union(), each(), input(0, ki), input(2, ki), union(), each(), input(0, ki), input(2, ki), union(), each()}
	for _, way := range []int{api.WayShuffle, api.WayCast, api.WayGather, api.WayRoot} {
		var cols []int
		if way == api.WayShuffle {
			cols = []int{0}
		}
		falls(api.ErrFault, by(onAll(way, input(0, ki), project(bad(0, 2))), cols...))
		falls(api.ErrOver, by(onAll(way, eachWithEach...), cols...)) // 256 rows
		falls(api.ErrFault, by(onAll(way, input(0, kt)), cols...))
		falls(api.ErrFault, by(onAll(way, scanU()), cols...)) // there is no table
	}
	falls(api.ErrOver, by(onAll(api.WayGather, eachWithEach...), 0)) // it does not come to what may not go on
}

// P25.4: what comes to rows that can't go on falls by a fault, of whatever Way and Cols; if they are the query's nothing is asked of these.
func TestGoThatMayNotGo(t *testing.T) {
	for _, f := range []api.Frag{both(0), both(5), both(-1), both(1 << 32), both(api.WayShuffle), both(api.WayShuffle, 1), both(api.WayShuffle, -1), both(api.WayShuffle, 0, 1), both(api.WayCast, 0), both(api.WayGather, 0)} {
		for _, outs := range [][]api.Out{nil, {goes(0, fresh(5), "")}, opened()} {
			x := ready(f, outs...)
			goesOn(t, x, nil, fallen(x, api.ErrFault))
		}
	}
	x := ready(both(api.WayRoot, 7))
	goesOn(t, x, nil, changing(x, func(x *api.Task) { x.State, x.Rows = api.TaskDone, list("1 / 1 / 2 / 5") }))
	x = ready(both(api.WayShuffle, slices.Repeat([]int{0}, api.MaxWidth)...), opened()...)
	if got := asRule(t, "Go", given{Task: x}); got.Task.State != api.TaskSends {
		t.Error(got)
	}
	x = ready(both(api.WayShuffle, slices.Repeat([]int{0}, api.MaxWidth+1)...), opened()...)
	goesOn(t, x, nil, fallen(x, api.ErrFault))
}

// P25.4: Rest of no row, of a batch just, of one more, of as many as are put at once, with the end and without, of more; where the fragment runs is nothing to it.
func TestGoOfManyRows(t *testing.T) {
	for _, count := range []int{0, 1, 3, 4, 5, 8, 27, 28, 29, 31, 32, 33, 100, 199, 200} {
		for _, at := range []int{api.AtAll, api.AtOne, 0} {
			f := api.Frag{Nodes: steps(scanU()), At: at, Way: api.WayGather}
			for _, limit := range []uint64{0, 3, api.MaxSeq} {
				x := taskOf(f, api.TaskGathers, nil, []api.Out{goes(0, fresh(limit), "")})
				got := goesOn(t, x, [][]api.Row{nil, counted(count)}, sent(x, counted(count)))
				out := got.Outs[0]
				if len(out.Rest) != max(0, count-32) || out.Sender.Ended != (count <= 28) {
					t.Errorf("%v rows: %v are left, %v", count, len(out.Rest), out.Sender)
				}
			}
		}
	}
}

// P25.4: rows as the fragment has them, of whatever values; those of several columns go by some of them.
func TestRowsThatGo(t *testing.T) {
	rows := list("NULL NULL / 1 'a' / 1 'b' / 2 NULL / 2 ''")
	f := by(onAll(api.WayShuffle, input(5, ki, kt), sortBy(-1, down(1), down(0))), 1)
	x := taskOf(f, api.TaskGathers, []api.In{{Frag: 5, From: 1, Receiver: over(2), Rows: rows}}, opened())
	got := asRule(t, "Go", given{Task: x})
	count := 0
	for _, out := range got.Task.Outs {
		for _, b := range out.Sender.Queue {
			count += len(b.Rows)
		}
	}
	if got.Err != api.OK || count != len(rows) {
		t.Error(got, count)
	}
	f = onAll(api.WayGather, input(5, ki, kt), sortBy(-1, down(1), down(0)))
	x.Frag, x.Outs = f, []api.Out{goes(0, fresh(0), "")}
	goesOn(t, x, nil, sent(x, list("1 'b' / 1 'a' / 2 '' / 2 NULL / NULL NULL")))
	sums := onAll(api.WayGather, input(0, ki), partial([]int{0}, agg(api.AggSum, col(0))))
	x = ready(sums, goes(0, fresh(0), ""))
	goesOn(t, x, nil, sent(x, list("1 S1 / 2 S2")))
}

// P25.4: one that sends is filled, and nothing else; one that is done, or fell, stays as it is; whatever tables it is handed.
func TestGoOfOthers(t *testing.T) {
	filled := withOut(sends(), 3, goes(4, ended(1, 2), ""))
	for _, tables := range [][][]api.Row{nil, {list("1"), list("2")}, {{{{Kind: 9}}}}} {
		goesOn(t, sends(), tables, filled)
		goesOn(t, filled, tables, filled)
		for _, x := range []api.Task{done(), fell(), rooted(api.TaskDone), streamless(api.TaskDone), streamless(api.TaskFell), rooted(api.TaskSends, goes(0, ended(1, 0), ""))} {
			goesOn(t, x, tables, x)
		}
	}
	for _, left := range []int{0, 1, 4, 5, 32, 33, 200} {
		for had := 0; had <= 8; had++ {
			x := sending(changing(holds(6, had), func(s *api.Sender) { s.Limit = 5 }), counted(left))
			s, rest := put(0, counted(left))
			count := min(8-had, len(s.Queue))
			want := sending(changing(holds(6, had), func(s *api.Sender) { s.Limit = 5 }), nil)
			out := &want.Outs[0]
			out.Sender.Queue = append(out.Sender.Queue, s.Queue[:count]...)
			for _, b := range s.Queue[count:] {
				out.Rest = append(out.Rest, b.Rows...)
			}
			out.Rest = append(out.Rest, rest...)
			if n := len(out.Sender.Queue); n > 0 && out.Sender.Queue[n-1].End {
				out.Sender.Queue[n-1].Count, out.Sender.Ended = 5+uint64(n)-1, true
			}
			goesOn(t, x, nil, want)
		}
	}
}

// P25.4: tasks of chance in each state, of all Ways.
func TestGoByRule(t *testing.T) {
	m := newMaker(254)
	states := map[[2]int]int{}
	for range 1500 {
		x := m.task()
		got := asRule(t, "Go", given{Task: x, Tables: m.base().Tables})
		if got.Err != api.OK {
			t.Fatal(short(x))
		}
		states[[2]int{x.State, got.Task.State}]++
		again := asRule(t, "Go", given{Task: got.Task, Tables: m.base().Tables})
		if !same(again.Task, got.Task) {
			t.Errorf("%v goes on again: %v", short(got.Task), short(again.Task))
		}
	}
	for _, way := range [][2]int{{1, 1}, {1, 2}, {1, 3}, {1, 4}, {2, 2}, {3, 3}, {4, 4}} {
		if states[way] < 5 {
			t.Error(states)
		}
	}
}
