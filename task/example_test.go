package task_test

import (
	"testing"

	"bowsprit/api"
	"bowsprit/lower"
	"bowsprit/plan"
)

// chapter is the plan of the chapter's examples: LScan t (a int), gathered.
func chapter(t *testing.T) api.Plan {
	t.Helper()
	p, e := plan.Plan(tree(scan(0, ki)), cat(tab("t", "a int")))
	if e != api.OK || len(p.Frags) != 2 {
		t.Fatal(p, e)
	}
	return p
}

// begins holds what task is begun, and tells that.
func begins(t *testing.T, p api.Plan, epoch, sites, number, node int, want api.Task) api.Task {
	t.Helper()
	return becomes(t, "Begin", given{Plan: p, Epoch: epoch, Sites: sites, Number: number, Node: node}, want)
}

// noTask holds that none is begun.
func noTask(t *testing.T, p api.Plan, epoch, sites, number, node int) {
	t.Helper()
	got := asRule(t, "Begin", given{Plan: p, Epoch: epoch, Sites: sites, Number: number, Node: node})
	if !same(got, answer{Err: api.ErrArg}) {
		t.Errorf("Begin of %v, %v, %v, %v, %v: %v, not ErrArg", p, epoch, sites, number, node, got)
	}
}

// P25.2 to P25.5: the chapter's examples, one behind the other.
func TestChapter(t *testing.T) {
	p := chapter(t)
	frag := func(n int) api.Frag { return p.Frags[n] }
	x := begins(t, p, 3, 2, 0, 1, api.Task{Epoch: 3, Sites: 2, Number: 0, Node: 1, Frag: frag(0), State: api.TaskGathers, Outs: []api.Out{goes(0, fresh(0), "")}})
	queued := fresh(0)
	queued.Queue, queued.Ended = []api.Batch{rowsOf("1 / 2"), end(1)}, true
	x = goesOn(t, x, [][]api.Row{list("1 / 2")}, changing(x, func(x *api.Task) { x.State, x.Outs[0].Sender = api.TaskSends, queued }))
	x = ticks(t, x, x) // there is no room yet
	root := begins(t, p, 3, 2, 1, 0, api.Task{Epoch: 3, Sites: 2, Number: 1, Node: 0, Frag: frag(1), State: api.TaskGathers, Ins: []api.In{comes(0, 1, waits(1), ""), comes(0, 2, waits(1), "")}})
	acks := []api.Msg{told(api.MsgAck, 0, 1, 0, ackOf(1, 8)), told(api.MsgAck, 0, 2, 0, ackOf(1, 8))}
	root = ticks(t, root, root, acks...)
	x = hears(t, x, acks[0], changing(x, func(x *api.Task) { x.Outs[0].Sender.Limit = 8 }))
	packets := []api.Msg{told(api.MsgData, 1, 0, 0, dataOf(1, rowsOf("1 / 2"))), told(api.MsgData, 1, 0, 0, dataOf(2, end(1)))}
	x = ticks(t, x, changing(x, func(x *api.Task) { x.Outs[0].Sender.Sent = 2 }), packets...)
	noTask(t, p, 3, 2, 0, 0)
	noTask(t, p, 3, 2, 0, 2+1)
	noTask(t, p, 3, 2, 2, 0)
	root = hears(t, root, packets[0], changing(root, func(r *api.Task) { r.Ins[0] = comes(0, 1, waits(2), "1 / 2") }))
	root = hears(t, root, packets[1], changing(root, func(r *api.Task) { r.Ins[0] = comes(0, 1, over(1), "1 / 2") }))
	root = goesOn(t, root, nil, root) // the other node's did not come yet
	root = hears(t, root, told(api.MsgData, 2, 0, 0, dataOf(1, end(0))), changing(root, func(r *api.Task) { r.Ins[1] = comes(0, 2, over(0), "") }))
	root = goesOn(t, root, nil, changing(root, func(r *api.Task) { r.State, r.Rows = api.TaskDone, list("1 / 2") }))
	ticks(t, root, root, told(api.MsgAck, 0, 1, 0, ackOf(3, 10)), told(api.MsgAck, 0, 2, 0, ackOf(2, 9)))
	x = hears(t, x, told(api.MsgAck, 0, 1, 0, ackOf(3, 10)), changing(x, func(x *api.Task) {
		x.State, x.Outs[0].Sender = api.TaskDone, api.Sender{Session: 3, Base: 3, Sent: 2, Limit: 10, Ended: true}
	}))
	ticks(t, x, x)
}

// network is all tasks of a plan over a layout.
type network struct {
	tasks  []api.Task
	layout api.Layout
}

// planned has all tasks of a plan begun, of that epoch.
func planned(t *testing.T, p api.Plan, epoch int, l api.Layout) *network {
	t.Helper()
	n := network{layout: l}
	for frag := range p.Frags {
		for _, node := range placesByRule(p, frag, len(l.Parts)) {
			got := asRule(t, "Begin", given{Plan: p, Epoch: epoch, Sites: len(l.Parts), Number: frag, Node: node})
			if got.Err != api.OK {
				t.Fatal(frag, node, got.Err)
			}
			n.tasks = append(n.tasks, got.Task)
		}
	}
	return &n
}

// tables are those of a task's node; of the node 0 what it has no use for.
func (n *network) tables(x api.Task) [][]api.Row {
	if x.Node == 0 {
		return [][]api.Row{list("77"), list("78"), list("79"), list("80")}
	}
	return n.layout.Parts[x.Node-1].Tables
}

// round is one in which nothing is lost: each task goes on and ticks, then all that was said comes, in order.
func (n *network) round(t *testing.T) {
	t.Helper()
	var l []api.Msg
	for k, x := range n.tasks {
		x = asRule(t, "Go", given{Task: x, Tables: n.tables(x)}).Task
		got := asRule(t, "Tick", given{Task: x})
		n.tasks[k] = got.Task
		l = append(l, got.Msgs...)
	}
	for _, m := range l {
		for k, x := range n.tasks {
			if x.Node == m.To {
				n.tasks[k] = asRule(t, "Hear", given{Task: x, Msg: m}).Task
			}
		}
	}
}

// P25.2 to P25.5: whole queries over a few rows, when nothing is lost: what the last fragment comes to, and behind how many rounds.
func TestWholeQueries(t *testing.T) {
	c := cat(tab("t", "a int b int", 0), tab("u", "c int"))
	l := laid(c, 3, []int{1, 3, 3}, list("1 5 / 1 7 / 2 NULL / 3 3"), list("1 / 3 / 3 / 9"))
	for _, q := range []struct {
		text, want string
		rounds     int
	}{
		{"select a from t", "1 / 1 / 2 / 3", 3},
		{"select c from u order by c desc limit 2", "9 / 3", 3},
		{"select a, sum(b) from t group by a", "1 12 / 2 NULL / 3 3", 3},
		{"select c, count(*) from u group by c", "1 1 / 3 2 / 9 1", 4},
		{"select b from t join u on a = c", "3 / 3 / 5 / 7", 4},
		{"select a, c from t left join u on a > c", "1 NULL / 1 NULL / 2 1 / 3 1", 4},
		{"select count(*) from u", "4", 3},
		{"select b from t where a = 77", "", 3},
		{"select distinct c from u union all select a from t", "1 / 1 / 1 / 2 / 3 / 3 / 9", 4},
	} {
		x, _, e := lower.Query(c, q.text)
		if e != api.OK {
			t.Fatal(q.text, e)
		}
		p, e := plan.Plan(x.Logic, c)
		if e != api.OK {
			t.Fatal(q.text, e)
		}
		n := planned(t, p, 12, l)
		last := &n.tasks[len(n.tasks)-1]
		for k := 1; k <= q.rounds; k++ {
			if last.State != api.TaskGathers {
				t.Errorf("%s: %v behind %v rounds", q.text, short(*last), k-1)
			}
			n.round(t)
		}
		if last.State != api.TaskDone || !same(last.Rows, list(q.want)) {
			t.Errorf("%s: %v, not %s", q.text, short(*last), q.want)
		}
		n.round(t)
		for _, x := range n.tasks {
			if x.State != api.TaskDone {
				t.Errorf("%s: %v is left", q.text, short(x))
			}
		}
	}
}
