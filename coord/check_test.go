package coord_test

import (
	"math"
	"slices"
	"testing"

	"bowsprit/api"
)

// far are numbers far from all that there may be, some of them like such in fewer bytes.
func far() []int {
	return []int{math.MinInt, -1 << 32, math.MaxInt, 1 << 31, 1<<32 + 1, 1<<32 + 2, 1<<32 + 12}
}

// without is a coordinator whose worker has no tasks.
func without(c api.Coord) api.Coord {
	return of(c, func(c *api.Coord) { c.Worker.Tasks = nil })
}

// P28.1: those that may be: of no query, of some in each state, of as many nodes as there may be.
func TestCoordsThatMayBe(t *testing.T) {
	isCoord(t, true, plain())
	isCoord(t, true, full())
	isCoord(t, true, without(full()))
	for nodes := range api.MaxSites {
		isCoord(t, true, api.Coord{Worker: api.Worker{Sites: nodes + 1}})
	}
	for k, x := range full().Entries {
		x.Life.Epoch = 1
		c := laid(nil, x)
		isCoord(t, true, c)
		isCoord(t, true, of(c, func(c *api.Coord) { c.Worker.Catalog = api.Catalog{} }))
		if runs := slices.Contains(fullRuns, k+1); runs != (c.Worker.Has == 2) || slices.Contains(fullTold, k+1) != (c.Worker.Gone == 2) {
			t.Error(c)
		}
	}
	isCoord(t, true, laid(nil, entry(runs(1, odd(), "a", "a"), nil, nil)))                         // what the plan is, is not asked
	isCoord(t, true, laid([]api.Task{fell(1, 4, api.ErrOver)}, entry(runs(1, small()), nil, nil))) // nor whether the tasks are its
}

// P28.1: a worker that may not be, each in another way; one of another node than 0, though it may be.
func TestWorkers(t *testing.T) {
	for _, change := range []func(w *api.Worker){
		func(w *api.Worker) { w.Sites = 0 }, func(w *api.Worker) { w.Sites = api.MaxSites + 1 }, func(w *api.Worker) { w.Sites = -1 }, func(w *api.Worker) { w.Node = -1 }, func(w *api.Worker) { w.Node = 1 },
		func(w *api.Worker) { w.Catalog.Tables[0].Name = "T" }, func(w *api.Worker) { w.Catalog.Tables[1].Columns[0].Kind = ks }, func(w *api.Worker) { w.Tables = [][]api.Row{nil, nil} }, func(w *api.Worker) { w.Tables = [][]api.Row{list("1")} },
		func(w *api.Worker) { w.Has |= 1 }, func(w *api.Worker) { w.Gone |= 1 }, func(w *api.Worker) { w.Has |= setOf(31) }, func(w *api.Worker) { w.Gone |= setOf(31) }, func(w *api.Worker) { w.Has |= setOf(13) }, func(w *api.Worker) { w.Gone |= setOf(13) },
	} {
		for _, c := range []api.Coord{plain(), full(), without(full())} {
			isCoord(t, false, of(c, func(c *api.Coord) { change(&c.Worker) }))
		}
	}
	for _, change := range []func(w *api.Worker){
		func(w *api.Worker) { w.Sites = sites + 1 }, func(w *api.Worker) { w.Tasks[0].Node = 1 }, func(w *api.Worker) { w.Tasks[0].Epoch = 1 }, func(w *api.Worker) { w.Tasks[0].Epoch = 3 }, func(w *api.Worker) { w.Tasks[2].Err = api.OK },
		func(w *api.Worker) { slices.Reverse(w.Tasks) }, func(w *api.Worker) { w.Tasks = append(w.Tasks, api.Task{}) }, func(w *api.Worker) { w.Tasks[1].Rows[0][0].U = 1 }, func(w *api.Worker) { w.Tasks[0].Frag.Nodes = nil },
	} {
		isCoord(t, false, of(full(), func(c *api.Coord) { change(&c.Worker) }))
	}
	for node := range api.MaxSites + 1 {
		w := api.Worker{Sites: api.MaxSites, Node: node, Catalog: tables()}
		if node > 0 {
			w.Tables = make([][]api.Row, 2)
		}
		isCoord(t, node == 0, api.Coord{Worker: w})
		w.Gone = setOf(1)
		isCoord(t, node == 0, api.Coord{Worker: w, Entries: []api.Entry{entry(over(1, failed(api.ErrCancel, 0)), nil, nil)}})
	}
}

// filled is a coordinator of so many entries: of each four one runs, one is over, one never was told, one failed at once.
func filled(count int) api.Coord {
	var l []api.Entry
	for k := range count {
		epoch := k + 1
		l = append(l, entry([]api.Life{runs(epoch, small(), "c"), over(epoch, failed(api.ErrCancel, 0)), over(epoch, failed(api.ErrName, 0)), over(epoch, failed(api.ErrOver, 0))}[k%4], nil, nil))
	}
	return laid(nil, l...)
}

// P28.1: as many entries as there may be, and one more, of which the worker knows, or does not.
func TestCountOfEntries(t *testing.T) {
	for count := range api.MaxEpochs + 4 {
		isCoord(t, count <= api.MaxEpochs, filled(count))
		c := filled(0)
		for k := range count {
			c.Entries = append(c.Entries, entry(over(k+1, failed(api.ErrParse, 7)), nil, nil))
		}
		isCoord(t, count <= api.MaxEpochs, c)
	}
}

// noLives may not be, for an epoch of its own each.
func noLives(epoch int) []api.Life {
	l := []api.Life{{}, {Epoch: epoch}, {Epoch: epoch, State: api.LifeRuns}, {Epoch: epoch, State: 3, Program: runs(1, small(), "c").Program}, {Epoch: epoch, Program: runs(1, small(), "c").Program}}
	l = append(l, over(epoch, came(list("1 2"), "c")), over(epoch, came([]api.Row{{{Kind: ki, U: 1}}}, "c")), over(epoch, failed(api.OK, 1)), over(epoch, failed(api.ErrOver, 4)), over(epoch, failed(api.ErrName, -1)))
	both := runs(epoch, small(), "c")
	both.Report = failed(api.ErrCancel, 0)
	over := over(epoch, failed(api.ErrFault, 0))
	over.Program = both.Program
	return append(l, both, over)
}

// P28.1: lives that may not be, whatever the worker knows of them; lives of another epoch than their place.
func TestLives(t *testing.T) {
	for k := range full().Entries {
		for _, l := range noLives(k + 1) {
			isCoord(t, false, of(full(), func(c *api.Coord) { c.Entries[k].Life = l }))
		}
		for _, epoch := range append(numbers(-2, 16), far()...) {
			isCoord(t, epoch == k+1, of(full(), func(c *api.Coord) { c.Entries[k].Life.Epoch = epoch }))
		}
	}
	isCoord(t, false, of(full(), func(c *api.Coord) { c.Entries[2], c.Entries[3] = c.Entries[3], c.Entries[2] }))
	isCoord(t, false, of(full(), func(c *api.Coord) { c.Entries = c.Entries[1:] }))
	isCoord(t, false, laid(nil, entry(over(2, failed(api.ErrCancel, 0)), nil, nil)))
}

// P28.1: Has and Gone: no node, each one, one more than there are, none's bit, of queries in each state.
func TestSetsOfNodes(t *testing.T) {
	for epoch, x := range full().Entries {
		epoch++
		mayHave := !slices.Contains(fullUntold, epoch)
		mayGo := slices.Contains(fullTold, epoch)
		for node := range 32 {
			is := node >= 1 && node <= sites
			set := func(has, gone uint32) api.Coord {
				return of(full(), func(c *api.Coord) { c.Entries[epoch-1].Has, c.Entries[epoch-1].Gone = has, gone })
			}
			isCoord(t, is && mayHave, set(setOf(node), 0))
			isCoord(t, is && mayHave, set(setOf(node, 1), 0))
			isCoord(t, is && mayGo, set(0, setOf(node)))
			isCoord(t, is && mayGo, set(setOf(node), setOf(node)))
			isCoord(t, is && mayGo, set(setOf(1, 2, 3), setOf(node)))
			isCoord(t, is && mayGo, set(x.Has, setOf(1, 2, node)))
		}
		isCoord(t, false, of(full(), func(c *api.Coord) { c.Entries[epoch-1].Has = math.MaxUint32 }))
		isCoord(t, false, of(full(), func(c *api.Coord) { c.Entries[epoch-1].Gone = math.MaxUint32 }))
	}
	for nodes := 1; nodes <= api.MaxSites; nodes++ {
		for node := range 12 {
			c := api.Coord{Worker: api.Worker{Sites: nodes, Gone: setOf(1)}, Entries: []api.Entry{entry(over(1, failed(api.ErrCancel, 0)), []int{1, node}, nil)}}
			isCoord(t, node >= 1 && node <= nodes, c)
			c.Entries[0].Has, c.Entries[0].Gone = c.Entries[0].Gone, c.Entries[0].Has
			isCoord(t, node >= 1 && node <= nodes, c)
			c = api.Coord{Worker: api.Worker{Sites: nodes, Has: setOf(1)}, Entries: []api.Entry{entry(runs(1, small()), []int{node}, nil)}}
			isCoord(t, node >= 1 && node <= nodes, c)
		}
	}
}

// P28.1: what the worker knows of each epoch: that it has it, was told to drop it, or nothing, with Has and Gone empty and not.
func TestWhatTheWorkerKnows(t *testing.T) {
	for epoch, x := range full().Entries {
		epoch++
		isRunning := slices.Contains(fullRuns, epoch)
		for _, have := range [][]int{nil, {1}, {1, 2, 3}} {
			for _, gone := range [][]int{nil, {2}, {1, 2, 3}} {
				base := of(without(full()), func(c *api.Coord) {
					c.Entries[epoch-1] = entry(x.Life, have, gone)
					c.Worker.Has &^= setOf(epoch)
					c.Worker.Gone &^= setOf(epoch)
				})
				isCoord(t, !isRunning && have == nil && gone == nil, base)
				isCoord(t, isRunning && gone == nil, of(base, func(c *api.Coord) { c.Worker.Has |= setOf(epoch) }))
				isCoord(t, !isRunning, of(base, func(c *api.Coord) { c.Worker.Gone |= setOf(epoch) }))
				isCoord(t, false, of(base, func(c *api.Coord) { c.Worker.Has |= setOf(epoch); c.Worker.Gone |= setOf(epoch) }))
			}
		}
	}
}

// P28.1: epochs behind the entries, of which the worker knows.
func TestEpochsBehind(t *testing.T) {
	for count := range api.MaxEpochs + 1 {
		c := filled(count)
		isCoord(t, true, c)
		for epoch := range 32 {
			if epoch >= 1 && epoch <= count {
				continue
			}
			isCoord(t, false, of(c, func(c *api.Coord) { c.Worker.Has |= setOf(epoch) }))
			isCoord(t, false, of(c, func(c *api.Coord) { c.Worker.Gone |= setOf(epoch) }))
		}
		if count > 0 {
			isCoord(t, (count-1)%4 > 1, of(c, func(c *api.Coord) { c.Entries = c.Entries[:count-1] }))
		}
	}
	isCoord(t, false, of(plain(), func(c *api.Coord) { c.Worker.Has, c.Worker.Tasks = setOf(2), []api.Task{gathers(2)} }))
}
