package worker_test

import (
	"slices"
	"testing"

	"bowsprit/api"
)

// sent is data of a stream for each number from one to another, each of its batch.
func sent(epoch, frag, from, to int, first, last uint64) (l []api.Msg) {
	for n := first; n <= last; n++ {
		l = append(l, data(epoch, frag, from, to, n, batch(n)))
	}
	return l
}

// wants is what a node says of the streams that came, but to itself.
func wants(epoch, node int) []api.Msg {
	l := []api.Msg{ack(epoch, 0, node, 1, 4, 11), ack(epoch, 0, node, 3, 2, 9), ack(epoch, 2, node, 0, 3, 10)}
	return slices.DeleteFunc(l, func(m api.Msg) bool { return m.To == node })
}

// P26.4: no task: nothing is said, whatever epochs there are.
func TestTickOfNothing(t *testing.T) {
	for node := range sites + 1 {
		w := plain(node)
		ticks(t, w, w)
		w.Has, w.Gone = setOf(1, 5), setOf(2, 12)
		ticks(t, w, w)
	}
}

// P26.4: one task in each state, at the node 4, to which nothing of its own goes but what the sender sends.
func TestTickOfOne(t *testing.T) {
	p := place{4, 5, 8}
	one := func(x api.Task) api.Worker { return having(plain(4), x) }
	w := one(done(p))
	ticks(t, w, w, wants(5, 4)...)
	w = one(ended(p, "1 / 2"))
	ticks(t, w, w, wants(5, 4)...)
	for _, e := range []api.Errno{api.ErrFault, api.ErrOver} {
		w = one(fell(p, e))
		ticks(t, w, w, append(wants(5, 4), failed(5, 4, e))...)
	}
	w = one(gathers(p))
	ticks(t, w, w, ack(5, 0, 4, 1, 4, 11), ack(5, 0, 4, 3, 3, 10), ack(5, 2, 4, 0, 1, 8))
	w = having(plain(4), changing(sends(p), func(x *api.Task) { x.Outs = x.Outs[:3] }))
	full := changing(w, func(w *api.Worker) { // the second one has room for its end
		w.Tasks[0].Outs[0].Sender.Sent, w.Tasks[0].Outs[1].Sender.Sent = 10, 9
		s := &w.Tasks[0].Outs[1].Sender
		s.Queue, s.Ended = append(s.Queue, end(8)), true
	})
	ticks(t, w, full, slices.Concat(sent(5, 8, 4, 1, 3, 10), sent(5, 8, 4, 2, 7, 8), []api.Msg{data(5, 8, 4, 2, 9, end(8))}, wants(5, 4))...)
}

// P26.4: what is said by several tasks, in their order, and by each as it says it; what fell is told behind all that.
func TestOrderOfTick(t *testing.T) {
	at := func(epoch, number int) place { return place{2, epoch, number} }
	one := func(k int) func(x *api.Task) { return func(x *api.Task) { x.Outs = x.Outs[k : k+1] } }
	w := having(plain(2), done(at(1, 0)), changing(sends(at(1, 1)), one(0)), fell(at(2, 0), api.ErrOver), changing(sends(at(2, 6)), one(3)), fell(at(9, 3), api.ErrFault), ended(at(12, 1), "7"))
	want := changing(w, func(w *api.Worker) {
		w.Tasks[1].Outs[0].Sender.Sent = 10
		s := &w.Tasks[3].Outs[0].Sender
		s.Queue, s.Ended, s.Sent = append(s.Queue, end(2)), true, 3
	})
	last := []api.Msg{data(2, 6, 2, 4, 3, end(2))}
	ticks(t, w, want, slices.Concat(wants(1, 2), sent(1, 1, 2, 1, 3, 10), wants(1, 2), wants(2, 2), sent(2, 6, 2, 4, 1, 2), last, wants(2, 2), wants(9, 2), wants(12, 2), []api.Msg{failed(2, 2, api.ErrOver), failed(9, 2, api.ErrFault)})...)
}

// toItself is a worker whose first task sends its tables' rows to the node itself and to another one, and whose second task gathers what comes of that from the node itself.
func toItself(node, other int) api.Worker {
	outs := []api.Out{goes(node, fresh(0), ""), goes(other, fresh(8), "")}
	ins := []api.In{comes(0, node, waits(1), ""), comes(0, other, over(0), "")}
	slices.SortFunc(outs, func(a, b api.Out) int { return a.To - b.To })
	slices.SortFunc(ins, func(a, b api.In) int { return a.From - b.From })
	return having(plain(node), scans(place{node, 6, 0}, onAll(api.WayCast, scanU()), outs...), taskOf(place{node, 6, 1}, onAll(api.WayGather, input(0, ki)), api.TaskGathers, ins, []api.Out{goes(0, fresh(0), "")}))
}

// P26.4: what a node says to itself is heard by its own tasks at that tick, when all of them have ticked; it is not said to anybody.
func TestTickToItself(t *testing.T) {
	w := toItself(1, 3)
	rows := rowsOf("NULL / 1 / 3 / 3")
	filled := func(limit, sent uint64, timer int) api.Sender {
		s := queued(limit, rows, end(1))
		s.Session, s.Sent, s.Timer = 6, sent, timer
		return s
	}
	over3 := ack(6, 0, 1, 3, 2, 9)
	w = ticks(t, w, changing(w, func(w *api.Worker) { // it hears of room, behind its own tick
		w.Tasks[0].State = api.TaskSends
		w.Tasks[0].Outs[0].Sender, w.Tasks[0].Outs[1].Sender = filled(8, 0, 0), filled(8, 2, 0)
	}), data(6, 0, 1, 3, 1, rows), data(6, 0, 1, 3, 2, end(1)), over3)
	w = ticks(t, w, changing(w, func(w *api.Worker) { // all came, but its ack was said ahead of that
		w.Tasks[0].Outs[0].Sender, w.Tasks[0].Outs[1].Sender = filled(8, 2, 0), filled(8, 2, 1)
		in := comes(0, 1, over(1), "NULL / 1 / 3 / 3")
		in.Receiver.Session = 6
		w.Tasks[1].Ins[0] = in
	}), over3)
	w = ticks(t, w, changing(w, func(w *api.Worker) { // the second task goes on; the first one has to do with the other node alone
		s := acknowledged(1)
		s.Session, s.Limit = 6, 10
		w.Tasks[0].Outs[0].Sender, w.Tasks[0].Outs[1].Sender = s, filled(8, 2, 2)
		w.Tasks[1].State, w.Tasks[1].Outs[0].Sender = api.TaskSends, filled(0, 0, 0)
	}), over3)
	w = hears(t, w, ack(6, 0, 3, 1, 3, 10), changing(w, func(w *api.Worker) {
		s := acknowledged(1)
		s.Session, s.Limit = 6, 10
		w.Tasks[0].State, w.Tasks[0].Outs[1].Sender = api.TaskDone, s
	}))
	w = hears(t, w, ack(6, 1, 0, 1, 1, 8), changing(w, func(w *api.Worker) { w.Tasks[1].Outs[0].Sender.Limit = 8 }))
	ticks(t, w, changing(w, func(w *api.Worker) { w.Tasks[1].Outs[0].Sender.Sent = 2 }), data(6, 1, 1, 0, 1, rows), data(6, 1, 1, 0, 2, end(1)), over3)
}

// P26.4: so at the coordinator's node, whose streams to itself are no plan's.
func TestTickToItselfAtZero(t *testing.T) {
	sends := taskOf(place{0, 6, 0}, both(api.WayGather), api.TaskGathers, []api.In{comes(0, 1, over(1), "1 / 2"), comes(2, 4, over(1), "0")}, []api.Out{goes(0, fresh(3), "")})
	waits := taskOf(place{0, 6, 1}, both(api.WayRoot), api.TaskGathers, []api.In{comes(0, 0, waits(1), "")}, nil)
	w := having(plain(0), sends, waits)
	said := []api.Msg{ack(6, 0, 0, 1, 3, 10), ack(6, 2, 0, 4, 3, 10)}
	w = ticks(t, w, changing(w, func(w *api.Worker) {
		s := queued(8, rowsOf("0 / 1 / 2"), end(1)) // its limit was said at this tick, too
		s.Session, s.Sent = 6, 2
		w.Tasks[0].State, w.Tasks[0].Outs[0].Sender = api.TaskSends, s
		in := comes(0, 0, over(1), "0 / 1 / 2")
		in.Receiver.Session = 6
		w.Tasks[1].Ins[0] = in
	}), said...)
	w = ticks(t, w, changing(w, func(w *api.Worker) {
		s := acknowledged(1)
		s.Session, s.Limit = 6, 10
		w.Tasks[0].State, w.Tasks[0].Outs[0].Sender = api.TaskDone, s
		w.Tasks[1].State, w.Tasks[1].Rows = api.TaskDone, list("0 / 1 / 2")
	}), said...)
	hasRows(t, w, 6, list("0 / 1 / 2"))
}

// P26.4: tasks go on by the tables of their node, at the coordinator's by none.
func TestTickByTables(t *testing.T) {
	scan := onAll(api.WayGather, scanU())
	for node := 1; node <= sites; node++ {
		w := having(plain(node), scans(place{node, 5, 0}, scan, goes(0, fresh(0), "")))
		for k, rows := range []string{"", "7", "9 / 8 / NULL", "2 / 2"} {
			w.Tables[1] = list(rows)
			want := changing(w, func(w *api.Worker) {
				batches := [][]api.Batch{{end(0)}, {rowsOf("7"), end(1)}, {rowsOf("NULL / 8 / 9"), end(1)}, {rowsOf("2 / 2"), end(1)}}[k]
				w.Tasks[0].State, w.Tasks[0].Outs[0].Sender = api.TaskSends, queued(0, batches...)
				w.Tasks[0].Outs[0].Sender.Session = 5
			})
			ticks(t, w, want)
		}
	}
	w := having(plain(0), scans(place{0, 5, 0}, scan, goes(1, fresh(0), "")))
	w = ticks(t, w, changing(w, func(w *api.Worker) { w.Tasks[0].State, w.Tasks[0].Err = api.TaskFell, api.ErrFault }))
	isFallen(t, w, 5, api.ErrFault)
}

// fault and tooMuch are fragments that come to their ends over the tables of most workers, at each node but the coordinator's.
func fault() api.Frag {
	return onAll(api.WayGather, scanU(), project(bad(0, 3)))
}

func tooMuch() api.Frag {
	return onAll(api.WayGather, scanU(), scanU(), each(), scanU(), each(), scanU(), each())
}

// falling is a worker whose tasks of an epoch go on to such ends; of api.OK to rows, which have no room yet.
func falling(node int, ends map[[2]int]api.Errno) (before, after api.Worker) {
	var l, fallen []api.Task
	for e := 1; e <= api.MaxEpochs; e++ {
		for number := range api.MaxFrags {
			err, ok := ends[[2]int{e, number}]
			if !ok {
				continue
			}
			frag := map[api.Errno]api.Frag{api.OK: onAll(api.WayGather, scan(0, ki, kt), filter(lit(no))), api.ErrFault: fault(), api.ErrOver: tooMuch()}[err]
			x := scans(place{node, e, number}, frag, goes(0, fresh(0), ""))
			l = append(l, x)
			x.State, x.Err = api.TaskFell, err
			if err == api.OK {
				x = copyOf(x)
				x.State, x.Outs[0].Sender = api.TaskSends, queued(0, end(0))
				x.Outs[0].Sender.Session = uint32(e)
			}
			fallen = append(fallen, x)
		}
	}
	return having(plain(node), l...), having(plain(node), fallen...)
}

// P26.4: tasks that fall at that tick: one, several of an epoch, of which the first one says why, of several epochs; and at each tick behind that it is told again.
func TestTickThatFalls(t *testing.T) {
	for _, c := range []struct {
		ends map[[2]int]api.Errno
		want []api.Msg
	}{
		{map[[2]int]api.Errno{{1, 0}: api.OK}, nil},
		{map[[2]int]api.Errno{{1, 0}: api.ErrFault}, []api.Msg{failed(1, 3, api.ErrFault)}},
		{map[[2]int]api.Errno{{12, 29}: api.ErrOver}, []api.Msg{failed(12, 3, api.ErrOver)}},
		{map[[2]int]api.Errno{{4, 0}: api.ErrFault, {4, 1}: api.ErrOver}, []api.Msg{failed(4, 3, api.ErrFault)}},
		{map[[2]int]api.Errno{{4, 0}: api.ErrOver, {4, 1}: api.ErrFault, {4, 2}: api.ErrFault}, []api.Msg{failed(4, 3, api.ErrOver)}},
		{map[[2]int]api.Errno{{4, 0}: api.OK, {4, 7}: api.ErrOver, {4, 8}: api.ErrFault}, []api.Msg{failed(4, 3, api.ErrOver)}},
		{map[[2]int]api.Errno{{1, 5}: api.ErrOver, {2, 0}: api.OK, {3, 1}: api.ErrFault, {3, 2}: api.ErrOver, {11, 0}: api.OK, {11, 1}: api.ErrOver, {12, 0}: api.ErrFault}, []api.Msg{failed(1, 3, api.ErrOver), failed(3, 3, api.ErrFault), failed(11, 3, api.ErrOver), failed(12, 3, api.ErrFault)}},
	} {
		before, after := falling(3, c.ends)
		w := ticks(t, before, after, c.want...)
		for range 7 {
			w = ticks(t, w, after, c.want...)
		}
		for e := 1; e <= api.MaxEpochs; e++ {
			k := slices.IndexFunc(c.want, func(m api.Msg) bool { return m.Epoch == e })
			if k < 0 {
				isUp(t, w, e)
				continue
			}
			isFallen(t, w, e, c.want[k].Err)
			gone := hears(t, w, dropped(e, 3), changing(w, func(w *api.Worker) {
				w.Has, w.Gone = w.Has&^setOf(e), setOf(e)
				w.Tasks = slices.DeleteFunc(w.Tasks, func(x api.Task) bool { return x.Epoch == e })
			}), gone(e, 3))
			ticks(t, gone, gone, slices.Delete(slices.Clone(c.want), k, k+1)...)
		}
	}
}

// P26.4: tasks that had fallen before, beside such as fall at that tick: the first one of all of the epoch says why.
func TestTickThatFellBefore(t *testing.T) {
	at := func(epoch, number int) place { return place{3, epoch, number} }
	fallen := func(p place, e api.Errno, f api.Frag) api.Task {
		x := scans(p, f, goes(0, fresh(0), ""))
		x.State, x.Err = api.TaskFell, e
		return x
	}
	w := having(plain(3), fallen(at(2, 1), api.ErrOver, fault()), scans(at(2, 4), fault(), goes(0, fresh(0), "")), scans(at(5, 0), tooMuch(), goes(0, fresh(0), "")), fallen(at(5, 1), api.ErrFault, fault()), fallen(at(9, 0), api.ErrFault, tooMuch()))
	want := having(plain(3), fallen(at(2, 1), api.ErrOver, fault()), fallen(at(2, 4), api.ErrFault, fault()), fallen(at(5, 0), api.ErrOver, tooMuch()), fallen(at(5, 1), api.ErrFault, fault()), fallen(at(9, 0), api.ErrFault, tooMuch()))
	isFallen(t, w, 5, api.ErrFault)
	w = ticks(t, w, want, failed(2, 3, api.ErrOver), failed(5, 3, api.ErrOver), failed(9, 3, api.ErrFault))
	isFallen(t, w, 5, api.ErrOver)
	ticks(t, w, w, failed(2, 3, api.ErrOver), failed(5, 3, api.ErrOver), failed(9, 3, api.ErrFault))
}

// P26.4: at the coordinator's node nothing is said of what fell.
func TestTickThatFallsAtZero(t *testing.T) {
	p := func(epoch, number int) place { return place{0, epoch, number} }
	bads := onOne(api.WayRoot, input(0, ki), project(bad(0, 2)))
	pairs := onOne(api.WayRoot, input(0, ki), input(0, ki), each())
	var many []api.In
	for from := 1; from <= 2; from++ {
		in := comes(0, from, over(2), "")
		in.Rows = ones(8)
		many = append(many, in)
	}
	w := having(plain(0), taskOf(p(1, 3), bads, api.TaskGathers, []api.In{comes(0, 1, over(2), "1 / 2")}, nil), taskOf(p(2, 3), pairs, api.TaskGathers, many, nil), fell(p(4, 0), api.ErrFault))
	said := append([]api.Msg{ack(1, 0, 0, 1, 4, 11), ack(2, 0, 0, 1, 4, 11), ack(2, 0, 0, 2, 4, 11)}, wants(4, 0)...)
	w = ticks(t, w, changing(w, func(w *api.Worker) {
		w.Tasks[0].State, w.Tasks[0].Err = api.TaskFell, api.ErrFault
		w.Tasks[1].State, w.Tasks[1].Err = api.TaskFell, api.ErrOver
	}), said...)
	ticks(t, w, w, said...)
	isFallen(t, w, 1, api.ErrFault)
	isFallen(t, w, 2, api.ErrOver)
	isFallen(t, w, 4, api.ErrFault)
}

// P26.4: workers of chance, which tick several times, and hear some of what they say as if others had said it.
func TestTickByRule(t *testing.T) {
	m := newMaker(265)
	said, fails, changed := 0, 0, 0
	for range 70 {
		w := m.worker()
		for range 4 {
			got := asRule(t, "Tick", given{Worker: w})
			if !same(got.Worker, w) {
				changed++
			}
			w = got.Worker
			said += len(got.Msgs)
			for _, x := range got.Msgs {
				if x.Kind == api.MsgFail {
					fails++
				} else if m.Intn(4) == 0 {
					x.From, x.To = x.To, x.From
					w = asRule(t, "Hear", given{Worker: w, Msg: x}).Worker
				}
			}
		}
	}
	if said < 4000 || fails < 200 || changed < 150 {
		t.Error(said, fails, changed)
	}
}
