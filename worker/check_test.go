package worker_test

import (
	"math"
	"slices"
	"strings"
	"testing"

	"bowsprit/api"
)

// far are numbers far from all that there may be.
func far() []int {
	return []int{math.MinInt, -1 << 32, math.MaxInt, 1 << 31, 1<<32 + 1, 1<<32 + 3}
}

// placed is the worker of a node of so many, without queries.
func placed(nodes, node int) api.Worker {
	w := plain(0)
	w.Sites, w.Node = nodes, node
	if node != 0 {
		w.Tables = plain(1).Tables
	}
	return w
}

// P26.1: Sites and Node, just and by one more.
func TestPlaces(t *testing.T) {
	for nodes := -2; nodes <= api.MaxSites+2; nodes++ {
		for node := -2; node <= api.MaxSites+2; node++ {
			isWorker(t, nodes >= 1 && nodes <= api.MaxSites && node >= 0 && node <= nodes, placed(nodes, node))
		}
		for _, n := range far() {
			isWorker(t, false, placed(nodes, n))
			isWorker(t, false, placed(n, nodes))
			isWorker(t, false, placed(n, n))
		}
	}
}

// wrongCatalogs may not be, though all but the first two have as many tables, of as many columns, as tables has.
func wrongCatalogs() []api.Catalog {
	t, u := tab("t", "a int b text", 0), tab("u", "c int")
	five := cat(t, u, tab("v", "a int"), tab("w", "a int"), tab("x", "a int"))
	l := []api.Catalog{five, cat(api.Table{}), cat(t, tab("t", "c int")), cat(t, tab("U", "c int")), cat(t, tab("", "c int")), cat(tab("t", "a int a text", 0), u), cat(tab("t", "a int b text", 2), u), cat(tab("t", "a int b text", 1, 0), u), cat(tab("t", "a int b text", -1), u), cat(tab("t", "a int b text", 0, 0), u)}
	for _, kind := range []int{kn, ks, 5, -1} {
		l = append(l, cat(t, api.Table{Name: "u", Columns: []api.Column{{Name: "c", Kind: kind}}}))
	}
	return l
}

// P26.1: the catalog: of no tables, of as many as there may be, of columns of each kind; and such as may not be.
func TestCatalogs(t *testing.T) {
	all := cat(tab("t", "a int b text c bool d int", 0, 1, 2, 3), tab("u", "a int"), tab("v", "a int"), tab("w", "a int"))
	for _, c := range []api.Catalog{{}, cat(tab("t", "a int")), tables(), all} {
		w := api.Worker{Sites: 1, Catalog: c}
		isWorker(t, true, w)
		w.Node, w.Tables = 1, make([][]api.Row, len(c.Tables))
		isWorker(t, true, w)
	}
	for _, c := range wrongCatalogs() {
		for _, w := range []api.Worker{plain(0), plain(1), full(0), full(3)} {
			isWorker(t, false, changing(w, func(w *api.Worker) { w.Catalog = c }))
		}
		isWorker(t, false, api.Worker{Sites: 1, Node: 1, Catalog: c, Tables: make([][]api.Row, len(c.Tables))})
	}
}

// wrongRows may not be, each of one value that may not.
func wrongRows() []api.Row {
	return []api.Row{{{Kind: kn, N: 1}}, {{Kind: kb, N: 2}}, {{Kind: ki, S: "a"}}, {{Kind: ki, U: 1}}, {{Kind: kt, N: 1}}, {text(strings.Repeat("a", api.MaxText+1))}, {{Kind: 5}}, {{Kind: -1}}}
}

// ofTable is the worker of a node whose catalog has one table, and the rows of that.
func ofTable(columns string, rows []api.Row) api.Worker {
	return api.Worker{Node: 2, Sites: 3, Catalog: cat(tab("t", columns)), Tables: [][]api.Row{rows}}
}

// P26.1: tables: of the coordinator's node none; of each other one as many as the catalog has, whether they have rows or not.
func TestCountOfTables(t *testing.T) {
	for count := range 6 {
		w := plain(0)
		w.Tables = make([][]api.Row, count)
		isWorker(t, count == 0, w)
		for node := 1; node <= sites; node++ {
			w.Node = node
			isWorker(t, count == 2, w)
		}
	}
	some := plain(1)
	for k, tables := range [][][]api.Row{nil, some.Tables[:1], some.Tables, append(some.Tables, nil), append(some.Tables, list("1"))} {
		some.Tables = tables
		isWorker(t, k == 2, some)
		zero := changing(some, func(w *api.Worker) { w.Node = 0 })
		isWorker(t, k == 0, zero)
	}
}

// P26.1: rows of a table: none, as many as there may be, one more.
func TestCountOfRows(t *testing.T) {
	for count := range api.MaxTable + 4 {
		isWorker(t, count <= api.MaxTable, ofTable("a int", ones(count)))
		w := plain(4)
		w.Tables[1] = ones(count)
		isWorker(t, count <= api.MaxTable, w)
	}
	isWorker(t, false, ofTable("a int", ones(api.MaxList+1)))
}

// P26.1: rows of one value too few and too many, values of the column's kind, null, of another kind, such as may not be, in each place.
func TestRowsOfTables(t *testing.T) {
	long := text(strings.Repeat("a", api.MaxText))
	values := map[int][]api.Value{kn: {null}, kb: {no, yes}, ki: {number(0), number(math.MinInt64), number(math.MaxInt64)}, kt: {text(""), text("a"), long}, ks: {under(5), under(0), under(-1)}}
	columns := map[int]string{kb: "a bool", ki: "a int", kt: "a text"}
	for kind, column := range columns {
		for other, l := range values {
			for _, v := range l {
				isWorker(t, other == kn || other == kind, ofTable(column, []api.Row{{v}}))
				isWorker(t, other == kn || other == kind, ofTable("z int "+column, []api.Row{{null, null}, {number(5), v}}))
				isWorker(t, false, ofTable(column, []api.Row{{v, v}}))
				isWorker(t, false, ofTable("z int "+column, []api.Row{{number(5), v}, {v}}))
			}
		}
		for _, r := range wrongRows() {
			isWorker(t, false, ofTable(column, []api.Row{r}))
			isWorker(t, false, ofTable(column+" z int", []api.Row{{null, null}, {r[0], null}, {null, null}}))
		}
		isWorker(t, false, ofTable(column, []api.Row{{}}))
	}
	isWorker(t, true, ofTable("a int b bool c text d int", list("1 TRUE 'x' 2 / NULL NULL NULL NULL")))
	for k := range 4 {
		r := list("1 TRUE 'x' 2")[0]
		isWorker(t, false, ofTable("a int b bool c text d int", []api.Row{slices.Delete(slices.Clone(r), k, k+1)}))
		isWorker(t, false, ofTable("a int b bool c text d int", []api.Row{slices.Insert(slices.Clone(r), k, null)}))
	}
	isWorker(t, false, ofTable("a int", []api.Row{slices.Repeat(list("1")[0], api.MaxWidth+1)}))
	w := plain(1)
	w.Tables[0], w.Tables[1] = w.Tables[1], w.Tables[0]
	isWorker(t, false, w)
}

// P26.1: sets: of no epoch, of each, of what is none, of all; and what is in both.
func TestSets(t *testing.T) {
	for _, base := range []api.Worker{plain(0), plain(3)} {
		is := func(want bool, has, gone uint32) {
			t.Helper()
			isWorker(t, want, changing(base, func(w *api.Worker) { w.Has, w.Gone = has, gone }))
		}
		is(true, 0, 0)
		for epoch := range 32 {
			may := epoch >= 1 && epoch <= api.MaxEpochs
			one := setOf(epoch)
			is(may, one, 0)
			is(may, 0, one)
			is(false, one, one)
			is(may, setOf(1)|one, setOf(2)&^one)
			is(may, setOf(1)&^one, setOf(2)|one)
			is(false, setOf(1, 5)|one, setOf(5, 7))
			is(may && epoch != 5 && epoch != 7, setOf(1)|one, setOf(5, 7))
		}
		all := setOf(numbers(1, api.MaxEpochs)...)
		is(true, all, 0)
		is(true, 0, all)
		is(false, all, all)
		is(true, all&^setOf(4), setOf(4))
		is(false, all|setOf(4), setOf(4))
		is(true, setOf(4), all&^setOf(4))
		is(false, math.MaxUint32, 0)
		is(false, 0, math.MaxUint32)
		is(false, math.MaxUint32, math.MaxUint32)
		is(false, all+1, 0)
		is(false, 0, all+1)
		is(false, all+1<<13, 0)
	}
}

// inStates are tasks of a place in each state.
func inStates(p place) []api.Task {
	root := taskOf(p, both(api.WayRoot), api.TaskSends, came(), []api.Out{goes(0, holds(1, 1), "")})
	root.Rows = list("1 / 2")
	return []api.Task{gathers(p), sends(p), done(p), fell(p, api.ErrFault), fell(p, api.ErrOver), ended(p, "1 / 2"), root, scans(p, onAll(api.WayGather, scanU()))}
}

// P26.1: no task, one in each state, several.
func TestTasks(t *testing.T) {
	for node := range sites + 1 {
		isWorker(t, true, full(node))
		for _, x := range inStates(place{node, 5, 8}) {
			w := having(plain(node), x)
			isWorker(t, true, w)
			for other := range sites + 2 {
				isWorker(t, other == node, changing(plain(other), func(w *api.Worker) { w.Has, w.Tasks = setOf(5), []api.Task{x} }))
			}
			isWorker(t, false, changing(w, func(w *api.Worker) { w.Sites = sites + 1 }))
			isWorker(t, false, changing(w, func(w *api.Worker) { w.Tasks[0].Sites = sites + 1 }))
			isWorker(t, false, changing(w, func(w *api.Worker) { w.Tasks[0].Sites = 0 }))
			for epoch := range api.MaxEpochs + 2 {
				isWorker(t, epoch == 5, changing(w, func(w *api.Worker) { w.Has = setOf(epoch) }))
				isWorker(t, epoch != 5 && epoch >= 1 && epoch <= api.MaxEpochs, changing(w, func(w *api.Worker) { w.Gone = setOf(epoch) }))
				isWorker(t, false, changing(w, func(w *api.Worker) { w.Has, w.Gone = 0, setOf(epoch) }))
			}
		}
	}
}

// P26.1: a task that may not be, whichever of several.
func TestTasksThatMayNot(t *testing.T) {
	deeds := []func(x *api.Task){
		func(x *api.Task) { x.State = 0 }, func(x *api.Task) { x.State = 5 }, func(x *api.Task) { x.Number = -1 }, func(x *api.Task) { x.Number = api.MaxFrags }, func(x *api.Task) { x.Epoch = 0 }, func(x *api.Task) { x.Epoch = -1 }, func(x *api.Task) { x.Epoch += 1 << 32 },
		func(x *api.Task) { x.Frag.Nodes = nil }, func(x *api.Task) { x.Frag.Nodes[0].Op = 99 }, func(x *api.Task) { x.Ins = append(x.Ins, api.In{Frag: 29}) }, func(x *api.Task) { x.Outs = append(x.Outs, api.Out{To: sites}) },
		func(x *api.Task) { x.Err = api.ErrArg }, func(x *api.Task) { x.Rows = wrongRows()[:1] }, func(x *api.Task) { x.Node-- }, func(x *api.Task) { x.Node++ }, func(x *api.Task) { x.Sites-- }, func(x *api.Task) { *x = api.Task{} },
	}
	w := full(2)
	for k := range w.Tasks {
		for _, do := range deeds {
			isWorker(t, false, changing(w, func(w *api.Worker) { do(&w.Tasks[k]) }))
		}
	}
	for _, n := range far() {
		isWorker(t, false, changing(w, func(w *api.Worker) { w.Tasks[0].Epoch = n }))
		isWorker(t, false, changing(w, func(w *api.Worker) { w.Tasks[8].Number = n }))
		isWorker(t, false, changing(w, func(w *api.Worker) { w.Tasks[4].Node = n }))
	}
}

// P26.1: tasks by rising epochs, of one by rising numbers; the same twice, falling.
func TestOrderOfTasks(t *testing.T) {
	is := func(want bool, l ...[2]int) {
		t.Helper()
		for _, node := range []int{0, 3} {
			var tasks []api.Task
			for _, x := range l {
				tasks = append(tasks, ended(place{node, x[0], x[1]}, "1"))
			}
			isWorker(t, want, having(plain(node), tasks...))
		}
	}
	is(true)
	is(true, [2]int{1, 0})
	is(true, [2]int{1, 0}, [2]int{1, 1}, [2]int{1, 29}, [2]int{2, 0}, [2]int{12, 0}, [2]int{12, 29})
	is(true, [2]int{1, 29}, [2]int{2, 0}, [2]int{3, 0})
	is(false, [2]int{1, 0}, [2]int{1, 0})
	is(false, [2]int{1, 1}, [2]int{1, 0})
	is(false, [2]int{2, 0}, [2]int{1, 0})
	is(false, [2]int{2, 0}, [2]int{1, 1})
	is(false, [2]int{2, 5}, [2]int{3, 5}, [2]int{3, 5})
	is(false, [2]int{2, 5}, [2]int{3, 5}, [2]int{2, 6})
	is(false, [2]int{12, 3}, [2]int{12, 4}, [2]int{12, 6}, [2]int{12, 5})
	w := full(1)
	for k := range len(w.Tasks) - 1 {
		isWorker(t, false, changing(w, func(w *api.Worker) { w.Tasks[k], w.Tasks[k+1] = w.Tasks[k+1], w.Tasks[k] }))
		isWorker(t, false, changing(w, func(w *api.Worker) { w.Tasks[k+1] = copyOf(w.Tasks[k]) }))
		isWorker(t, true, changing(w, func(w *api.Worker) { w.Tasks = slices.Delete(w.Tasks, k, k+1) }))
	}
	var all []api.Task
	for e := 1; e <= api.MaxEpochs; e++ {
		for number := range api.MaxFrags {
			all = append(all, scans(place{4, e, number}, onAll(api.WayGather, scanU())))
		}
	}
	isWorker(t, true, having(plain(4), all...))
	isWorker(t, false, having(plain(4), append(all, all[len(all)-1])...))
}

// P26.1: workers of chance, and such with something changed in them.
func TestCheckByRule(t *testing.T) {
	m := newMaker(261)
	met := tally{}
	for range 120 {
		w := m.worker()
		isWorker(t, true, w)
		count := things(w)
		for range 20 {
			x, _ := variant(w, m.Intn(count))
			met[asRule(t, "Check", given{Worker: x}).Err]++
		}
	}
	if met[api.OK] < 300 || met[api.ErrWorker] < 300 {
		t.Error(met)
	}
}
