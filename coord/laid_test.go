package coord_test

import (
	"slices"
	"strings"

	"bowsprit/api"
)

// sites is how many nodes most coordinators that are laid here have beside them.
const sites = 3

// tables are those of most coordinators' catalog: t, by one of its columns, and u, which scanU scans.
func tables() api.Catalog {
	return cat(tab("t", "a int b text", 0), tab("u", "c int"))
}

func scanU() api.LNode { return scan(1, ki) }

// plain is a coordinator that has no query.
func plain() api.Coord {
	return api.Coord{Worker: api.Worker{Sites: sites, Catalog: tables()}}
}

// bad faults where a column has a number.
func bad(column int, n int64) api.Expr {
	return on(api.NDiv, num(1), on(api.NSub, col(column), num(n)))
}

// small is a plan of just two fragments; faulty is one whose last fragment faults at 3, twice has two at the coordinator's node.
func small() api.Plan {
	return planOf(onAll(api.WayGather, scanU()), root(input(0, ki)))
}

func faulty() api.Plan {
	return planOf(onAll(api.WayGather, scanU()), root(input(0, ki), project(bad(0, 3))))
}

func twice() api.Plan {
	return planOf(onAll(api.WayGather, scanU()), onOne(api.WayCast, input(0, ki)), onAll(api.WayGather, input(1, ki)), root(input(2, ki)))
}

// odd is a plan that nobody could be told.
func odd() api.Plan {
	return planOf(api.Frag{Nodes: []api.LNode{{Op: 99, Items: []api.Expr{{}}}}, At: 7, Way: -1, Cols: []int{-5}}, api.Frag{})
}

// runs is the life of a query that runs, over that of one that has a report.
func runs(epoch int, p api.Plan, names ...string) api.Life {
	return api.Life{Epoch: epoch, State: api.LifeRuns, Program: api.Program{Plan: p, Names: names}}
}

func over(epoch int, r api.Report) api.Life {
	return api.Life{Epoch: epoch, State: api.LifeOver, Report: r}
}

// came is a report of rows, of columns that are called so; failed is one of an error, which has a place, if it is a static one.
func came(rows []api.Row, names ...string) api.Report {
	return api.Report{Names: names, Rows: rows}
}

func failed(e api.Errno, at int) api.Report {
	return api.Report{Err: e, At: at}
}

// waits is a receiver that wants a number, closed one whose end came behind so many batches.
func waits(epoch int, next uint64) api.Receiver {
	return api.Receiver{Session: uint32(epoch), Room: api.MaxHold, Next: next}
}

func closed(epoch int, count uint64) api.Receiver {
	r := waits(epoch, count+2)
	r.Over = true
	return r
}

// ins are streams of a fragment from all nodes, each of which came with the rows that are written.
func ins(epoch, frag int, rows ...string) (l []api.In) {
	for k, s := range rows {
		r := closed(epoch, 1)
		if s == "" {
			r = closed(epoch, 0)
		}
		l = append(l, api.In{Frag: frag, From: k + 1, Receiver: r, Rows: list(s)})
	}
	return l
}

// taskOf is a task at the coordinator's node.
func taskOf(epoch, number, state int, f api.Frag, ins []api.In) api.Task {
	return copyOf(api.Task{Epoch: epoch, Sites: sites, Number: number, Frag: f, State: state, Ins: ins})
}

// gathers is the last fragment of small as it waits; ready is one that goes on at the next tick; done has the query's rows.
func gathers(epoch int) api.Task {
	x := taskOf(epoch, 1, api.TaskGathers, root(input(0, ki)), ins(epoch, 0, "5", "3", ""))
	x.Ins[1].Receiver, x.Ins[2].Receiver = waits(epoch, 2), waits(epoch, 1)
	return x
}

func ready(epoch int) api.Task {
	return taskOf(epoch, 1, api.TaskGathers, root(input(0, ki)), ins(epoch, 0, "5", "3 / 9", ""))
}

func done(epoch int, rows string) api.Task {
	x := taskOf(epoch, 1, api.TaskDone, root(input(0, ki)), ins(epoch, 0, "5", "3 / 9", ""))
	x.Rows = list(rows)
	return x
}

// falls is the last fragment of faulty, which falls at the next tick; fell is one that did.
func falls(epoch int) api.Task {
	return taskOf(epoch, 1, api.TaskGathers, root(input(0, ki), project(bad(0, 3))), ins(epoch, 0, "5", "3 / 9", ""))
}

func fell(epoch, number int, e api.Errno) api.Task {
	x := taskOf(epoch, number, api.TaskFell, root(input(0, ki), project(bad(0, 3))), ins(epoch, 0, "5", "3 / 9", ""))
	x.Err = e
	return x
}

// wants is what the coordinator's node says of the streams of a task, whose numbers are those that it wants next.
func wants(epoch int, next ...uint64) (l []api.Msg) {
	for k, n := range next {
		m := message(api.MsgAck, epoch, 0, k+1)
		m.Packet = api.Packet{Kind: api.PkAck, Session: uint32(epoch), Seq: n, Limit: n - 1 + api.MaxHold}
		l = append(l, m)
	}
	return l
}

// entry is a query: its life, which nodes have it, and at which it is gone.
func entry(l api.Life, have, gone []int) api.Entry {
	return api.Entry{Life: l, Has: setOf(have...), Gone: setOf(gone...)}
}

// laid is a coordinator of entries: its worker has those that run, with these tasks, and was told to drop such as are over, but those of a static error, and those of no node.
func laid(tasks []api.Task, entries ...api.Entry) api.Coord {
	c := plain()
	c.Entries, c.Worker.Tasks = entries, tasks
	for k, x := range entries {
		isMute := x.Life.Report.Err == api.ErrName || x.Life.Report.Err == api.ErrOver && x.Has == 0 && x.Gone == 0
		switch {
		case x.Life.State == api.LifeRuns:
			c.Worker.Has |= setOf(k + 1)
		case !isMute:
			c.Worker.Gone |= setOf(k + 1)
		}
	}
	return copyOf(c)
}

// The entries of full: which of them run, are over and told to be dropped, are over and nobody was told of.
var (
	fullRuns   = []int{2, 5, 6, 7, 10}
	fullTold   = []int{3, 4, 8}
	fullUntold = []int{1, 9}
)

// full is a coordinator that has queries in each state: of two there are rows, of two a task fell.
func full() api.Coord {
	return laid(
		[]api.Task{gathers(2), done(5, "9 / 5"), fell(6, 1, api.ErrOver), done(7, "1"), fell(7, 3, api.ErrFault)},
		entry(over(1, failed(api.ErrName, 4)), nil, nil),
		entry(runs(2, small(), "c"), []int{1}, nil),
		entry(over(3, came(list("1 / 2"), "c")), []int{1, 2, 3}, []int{2}),
		entry(over(4, failed(api.ErrCancel, 0)), nil, []int{1, 2, 3}),
		entry(runs(5, small(), "x"), []int{1, 2, 3}, nil),
		entry(runs(6, faulty(), ""), nil, nil),
		entry(runs(7, small(), "c"), []int{2}, nil),
		entry(over(8, failed(api.ErrFault, 0)), []int{3}, nil),
		entry(over(9, failed(api.ErrOver, 0)), nil, nil),
		entry(runs(10, twice(), "y"), []int{2, 3}, nil),
	)
}

// of is a coordinator of which one thing is another.
func of(c api.Coord, change func(c *api.Coord)) api.Coord {
	return changing(c, change)
}

// ended is what becomes of a coordinator when a query is over, with a report: just that, and its worker is told to drop it.
func ended(c api.Coord, epoch int, r api.Report) api.Coord {
	return of(c, func(c *api.Coord) {
		c.Entries[epoch-1].Life = over(epoch, r)
		c.Worker.Has &^= setOf(epoch)
		c.Worker.Gone |= setOf(epoch)
		c.Worker.Tasks = slices.DeleteFunc(c.Worker.Tasks, func(x api.Task) bool { return x.Epoch == epoch })
	})
}

// message is one of a Kind.
func message(kind, epoch, from, to int) api.Msg {
	return api.Msg{Kind: kind, Epoch: epoch, From: from, To: to}
}

// have, gone and fails are what a node says to the coordinator's.
func have(epoch, from int) api.Msg {
	return message(api.MsgHave, epoch, from, 0)
}

func gone(epoch, from int) api.Msg {
	return message(api.MsgGone, epoch, from, 0)
}

func fails(epoch, from int, e api.Errno) api.Msg {
	m := message(api.MsgFail, epoch, from, 0)
	m.Err = e
	return m
}

// data is a batch of an epoch's fragment, ack is what a node wants of one.
func data(epoch, frag, from int, seq uint64, b api.Batch) api.Msg {
	m := message(api.MsgData, epoch, from, 0)
	m.Frag, m.Packet = frag, api.Packet{Kind: api.PkData, Session: uint32(epoch), Seq: seq, Batch: b}
	return m
}

func ack(epoch, frag, from int, seq, limit uint64) api.Msg {
	m := message(api.MsgAck, epoch, from, 0)
	m.Frag, m.Packet = frag, api.Packet{Kind: api.PkAck, Session: uint32(epoch), Seq: seq, Limit: limit}
	return m
}

// rowsOf is a batch of rows as they are written, end is that of a stream with so many batches.
func rowsOf(s string) api.Batch {
	return api.Batch{Rows: list(s)}
}

func end(count uint64) api.Batch {
	return api.Batch{End: true, Count: count}
}

// plans tells nodes of a query that runs, drops tells them that one is over.
func plans(epoch int, p api.Plan, nodes ...int) (l []api.Msg) {
	for _, node := range nodes {
		m := message(api.MsgPlan, epoch, 0, node)
		m.Sites, m.Plan = sites, p
		l = append(l, m)
	}
	return l
}

func drops(epoch int, nodes ...int) (l []api.Msg) {
	for _, node := range nodes {
		l = append(l, message(api.MsgDrop, epoch, 0, node))
	}
	return l
}

// numbers are those from one to another.
func numbers(from, to int) (l []int) {
	for n := from; n <= to; n++ {
		l = append(l, n)
	}
	return l
}

// long is a text of so many bytes that would compile, if it were not too long.
func long(bytes int) string {
	s := "SELECT c FROM u"
	return s + strings.Repeat(" ", bytes-len(s))
}
