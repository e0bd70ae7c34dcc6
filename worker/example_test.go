package worker_test

import (
	"slices"
	"testing"

	"bowsprit/api"
	"bowsprit/lower"
	"bowsprit/plan"
)

// isNew holds what worker there is of a catalog, of a node, of its tables, and tells that.
func isNew(t *testing.T, c api.Catalog, nodes, node int, tables [][]api.Row) api.Worker {
	t.Helper()
	g := given{Catalog: c, Sites: nodes, Node: node, Tables: tables}
	return becomes(t, "New", g, api.Worker{Node: node, Sites: nodes, Catalog: c, Tables: tables})
}

// P26.2 to P26.5: the chapter's examples, one behind the other.
func TestChapter(t *testing.T) {
	c := cat(tab("t", "a int"))
	p, e := plan.Plan(tree(scan(0, ki)), c)
	if e != api.OK || len(p.Frags) != 2 {
		t.Fatal(p, e)
	}
	w := isNew(t, c, 2, 1, [][]api.Row{list("1 / 2")})
	knows(t, w, 3, 0)
	w = hears(t, w, planned(p, 3, 1, 2), changing(w, func(w *api.Worker) {
		w.Has, w.Tasks = 8, []api.Task{begun(p, 3, 2, 0, 1)}
	}), have(3, 1))
	knows(t, w, 3, 1)
	w = hears(t, w, planned(p, 3, 1, 2), w, have(3, 1))
	if len(w.Tasks) != 1 {
		t.Error(w.Tasks)
	}
	deaf(t, w, planned(p, 3, 2, 2))
	w = ticks(t, w, changing(w, func(w *api.Worker) {
		w.Tasks[0].State = api.TaskSends
		w.Tasks[0].Outs[0].Sender = queued(0, rowsOf("1 / 2"), end(1))
	}))
	isUp(t, w, 3)
	hasNone(t, w, 3)
	w = hears(t, w, dropped(3, 1), changing(w, func(w *api.Worker) { w.Has, w.Gone, w.Tasks = 0, 8, nil }), gone(3, 1))
	w = hears(t, w, planned(p, 3, 1, 2), w, gone(3, 1))
	knows(t, w, 3, 2)
	w = hears(t, w, dropped(3, 1), w, gone(3, 1))
	ticks(t, w, w)
}

// network is the workers of all nodes, and what is on its way between them.
type network struct {
	workers []api.Worker
	way     []api.Msg
}

// spread has the workers of a layout's nodes, and of the coordinator's.
func spread(t *testing.T, c api.Catalog, l api.Layout) *network {
	t.Helper()
	n := network{workers: []api.Worker{isNew(t, c, len(l.Parts), 0, nil)}}
	for k, part := range l.Parts {
		n.workers = append(n.workers, isNew(t, c, len(l.Parts), k+1, part.Tables))
	}
	return &n
}

// does has a worker asked, and sends what it says.
func (n *network) does(t *testing.T, name string, node int, g given) {
	t.Helper()
	g.Worker = n.workers[node]
	got := asRule(t, name, g)
	if got.Err != api.OK {
		t.Fatal(name, got.Err)
	}
	n.workers[node] = got.Worker
	n.way = append(n.way, got.Msgs...)
}

// round is one in which nothing is lost: each worker ticks, then all that was said comes, in order; it tells what was said to the coordinator's node of how epochs stand.
func (n *network) round(t *testing.T) (stands []api.Msg) {
	t.Helper()
	for node := range n.workers {
		n.does(t, "Tick", node, given{})
	}
	for len(n.way) > 0 {
		m := n.way[0]
		n.way = n.way[1:]
		if m.Kind != api.MsgData && m.Kind != api.MsgAck {
			stands = append(stands, m)
		}
		n.does(t, "Hear", m.To, given{Msg: m})
	}
	return stands
}

// hear has all nodes hear of an epoch what the coordinator says to each, and tells what they say to that.
func (n *network) hear(t *testing.T, m api.Msg) (stands []api.Msg) {
	t.Helper()
	for node := range n.workers {
		m.To = node
		n.does(t, "Hear", node, given{Msg: m})
	}
	stands, n.way = n.way, nil
	return stands
}

// asked is the plan of a text.
func asked(t *testing.T, c api.Catalog, text string) api.Plan {
	t.Helper()
	x, _, e := lower.Query(c, text)
	if e != api.OK {
		t.Fatal(text, e)
	}
	p, e := plan.Plan(x.Logic, c)
	if e != api.OK {
		t.Fatal(text, e)
	}
	return p
}

// P26.3 to P26.5: whole queries beside one another over a few rows, when nothing is lost: what the coordinator's node comes to, or who tells it that a task fell.
func TestWholeQueries(t *testing.T) {
	c := cat(tab("t", "a int b int", 0), tab("u", "c int"))
	n := spread(t, c, laid(c, 3, []int{1, 3, 3}, list("1 5 / 1 7 / 2 NULL / 3 3"), list("1 / 3 / 3 / 9")))
	queries := []struct{ text, want string }{
		{"select a from t", "1 / 1 / 2 / 3"},
		{"select c from u order by c desc limit 2", "9 / 3"},
		{"select a, sum(b) from t group by a", "1 12 / 2 NULL / 3 3"},
		{"select c, count(*) from u group by c", "1 1 / 3 2 / 9 1"},
		{"select b from t join u on a = c", "3 / 3 / 5 / 7"},
		{"select a, c from t left join u on a > c", "1 NULL / 1 NULL / 2 1 / 3 1"},
		{"select count(*) from u", "4"},
		{"select b from t where a = 77", ""},
		{"select distinct c from u union all select a from t", "1 / 1 / 1 / 2 / 3 / 3 / 9"},
	}
	for k, q := range queries {
		if l := n.hear(t, planned(asked(t, c, q.text), k+1, 0, 3)); !same(l, []api.Msg{have(k+1, 1), have(k+1, 2), have(k+1, 3)}) {
			t.Errorf("%s: %v is said", q.text, l)
		}
		if l := n.round(t); len(l) > 0 {
			t.Errorf("%s: %v is said", q.text, l)
		}
	}
	for range 4 {
		n.round(t)
	}
	for k, q := range queries {
		hasRows(t, n.workers[0], k+1, list(q.want))
		for node, w := range n.workers {
			isUp(t, w, k+1)
			knows(t, w, k+1, 1)
			if node > 0 {
				hasNone(t, w, k+1)
			}
		}
		n.hear(t, dropped(k+1, 0))
		hasNone(t, n.workers[0], k+1)
		for _, w := range n.workers {
			knows(t, w, k+1, 2)
		}
	}
	for _, w := range n.workers {
		ticks(t, w, w)
	}
}

// P26.4, P26.5: queries of which tasks fall: at some nodes, which tell of it at each tick, till they are told to drop it; at the coordinator's, which tells nobody.
func TestQueriesThatFall(t *testing.T) {
	c := cat(tab("t", "a int b int", 0), tab("u", "c int"))
	n := spread(t, c, laid(c, 3, []int{1, 3, 3}, list("1 5 / 1 7 / 2 NULL / 3 3"), list("1 / 3 / 3 / 9")))
	n.hear(t, planned(asked(t, c, "select 1 / (c - 3) from u"), 4, 0, 3))
	n.hear(t, planned(asked(t, c, "select b from t join u on b = 7 order by b"), 5, 0, 3))
	n.hear(t, planned(asked(t, c, "select 1 / (count(*) - 4) from u"), 6, 0, 3))
	at := func(node int) []api.Msg { return []api.Msg{failed(4, node, api.ErrFault)} }
	for k := range 9 {
		if l := n.round(t); !same(l, at(3)) {
			t.Errorf("%v is said in the round %v", l, k)
		}
	}
	for node, w := range n.workers {
		if node == 3 {
			isFallen(t, w, 4, api.ErrFault)
		} else {
			isUp(t, w, 4)
		}
		isUp(t, w, 5)
	}
	isFallen(t, n.workers[0], 6, api.ErrFault)
	hasNone(t, n.workers[0], 4)
	hasRows(t, n.workers[0], 5, list("7 / 7 / 7 / 7"))
	hasNone(t, n.workers[0], 6)
	said := n.hear(t, dropped(4, 0))
	slices.SortFunc(said, func(a, b api.Msg) int { return a.From - b.From })
	if !same(said, []api.Msg{gone(4, 1), gone(4, 2), gone(4, 3)}) {
		t.Error(said)
	}
	if l := n.round(t); len(l) > 0 {
		t.Error(l, "is said of what was dropped")
	}
	isUp(t, n.workers[3], 4)
}
