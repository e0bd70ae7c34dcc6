package coord_test

import (
	"slices"
	"testing"

	"bowsprit/api"
)

// P28.4: no entry, and entries of which nobody is to be told: nothing is said, and nothing changes.
func TestTickOfNothing(t *testing.T) {
	ticks(t, plain(), plain())
	c := laid(nil, entry(over(1, failed(api.ErrName, 4)), nil, nil), entry(over(2, failed(api.ErrCancel, 0)), nil, []int{1, 2, 3}), entry(over(3, failed(api.ErrOver, 0)), nil, nil))
	ticks(t, c, c)
	c = laid(nil, entry(runs(1, small()), []int{1, 2, 3}, nil))
	ticks(t, c, c)
}

// fullTicked is what becomes of full at a tick.
func fullTicked() api.Coord {
	c := ended(full(), 5, came(list("9 / 5"), "x"))
	c = ended(c, 6, failed(api.ErrOver, 0))
	return ended(c, 7, came(list("1"), "c"))
}

// P28.4: several queries in each state: what the worker says goes ahead, then entry by entry, node by node; what ended at that tick is told to be dropped.
func TestTickOfFull(t *testing.T) {
	streams := slices.Concat(wants(2, 3, 2, 1), wants(5, 3, 3, 2), wants(6, 3, 3, 2), wants(7, 3, 3, 2), wants(7, 3, 3, 2))
	said := slices.Concat(streams, plans(2, small(), 2, 3), drops(3, 1, 3), drops(5, 1, 2, 3), drops(6, 1, 2, 3), drops(7, 1, 2, 3), drops(8, 1, 2, 3), plans(10, twice(), 1))
	c := ticks(t, full(), fullTicked(), said...)
	said = slices.Concat(wants(2, 3, 2, 1), plans(2, small(), 2, 3), drops(3, 1, 3), drops(5, 1, 2, 3), drops(6, 1, 2, 3), drops(7, 1, 2, 3), drops(8, 1, 2, 3), plans(10, twice(), 1))
	ticks(t, c, c, said...)
	for epoch, want := range map[int]api.Report{5: came(list("9 / 5"), "x"), 6: failed(api.ErrOver, 0), 7: came(list("1"), "c")} {
		hasNoReport(t, full(), epoch)
		reports(t, c, epoch, want)
	}
}

// P28.4: what is said of a query that runs, of one that is over: with each set of nodes in Has, in Gone.
func TestWhoIsTold(t *testing.T) {
	for set := range uint32(8) {
		nodes, others := bits(2*set), numbers(1, sites)
		others = slices.DeleteFunc(others, func(n int) bool { return slices.Contains(nodes, n) })
		c := laid(nil, entry(runs(1, small(), "c"), nodes, nil))
		ticks(t, c, c, plans(1, small(), others...)...)
		for _, have := range [][]int{nil, {2}, {1, 2, 3}} {
			for _, r := range []api.Report{came(list("1"), "c"), failed(api.ErrCancel, 0), failed(api.ErrFault, 0), failed(api.ErrOver, 0)} {
				c = laid(nil, entry(over(1, r), have, nodes))
				c.Worker.Gone = setOf(1)
				ticks(t, c, c, drops(1, others...)...)
				isQuiet(t, len(others) == 0, c)
			}
		}
	}
	for nodes := 1; nodes <= api.MaxSites; nodes++ {
		c := api.Coord{Worker: api.Worker{Sites: nodes, Has: setOf(1), Gone: setOf(2)}, Entries: []api.Entry{entry(runs(1, small()), nil, nil), entry(over(2, came(nil)), nil, nil)}}
		l := plans(1, small(), numbers(1, nodes)...)
		for k := range l {
			l[k].Sites = nodes
		}
		ticks(t, c, c, append(l, drops(2, numbers(1, nodes)...)...)...)
	}
}

// P28.4: a plan that no message may have is said as any other one: what has no bytes is lost further on.
func TestTickOfOddPlan(t *testing.T) {
	c := laid(nil, entry(runs(1, odd()), []int{2}, nil))
	ticks(t, c, c, plans(1, odd(), 1, 3)...)
}

// P28.4: rows that are there, at that tick or ahead of it: of each width and kind, in their order; the query is over by them.
func TestTickToRows(t *testing.T) {
	c := laid([]api.Task{ready(1)}, entry(runs(1, small(), "c"), []int{3}, nil))
	said := append(wants(1, 3, 3, 2), drops(1, 1, 2, 3)...)
	ticks(t, c, ended(c, 1, came(list("3 / 5 / 9"), "c")), said...)
	for _, x := range []struct {
		rows  string
		names []string
	}{{"", []string{"c"}}, {"", nil}, {"9 / 5 / 9", []string{""}}, {"1 'a' NULL / TRUE FALSE S5", []string{"a", "b", "a"}}} {
		c = laid([]api.Task{done(1, x.rows)}, entry(runs(1, small(), x.names...), []int{1}, nil))
		after := ticks(t, c, ended(c, 1, came(list(x.rows), x.names...)), said...)
		reports(t, after, 1, came(list(x.rows), x.names...))
	}
	wide := slices.Repeat([]api.Row{{}}, 9)
	x := done(1, "")
	x.Rows = wide
	c = laid([]api.Task{x}, entry(runs(1, odd()), nil, nil))
	ticks(t, c, ended(c, 1, came(wide)), said...)
}

// P28.4: rows that are not of the program's Names: the query failed with ErrOver, whatever else of it fell.
func TestTickToRowsThatMayNotBe(t *testing.T) {
	for rows, names := range map[string][]string{"1 2 / 3 4": {"a"}, "1 / 2": {"a", "b"}, "1": nil, "1 / 2 3": {"a"}, "5": {"a", "b", "c"}} {
		for _, others := range [][]api.Task{nil, {fell(1, 0, api.ErrFault)}} {
			c := laid(append(others, done(1, rows)), entry(runs(1, small(), names...), nil, nil))
			said := wants(1, 3, 3, 2)
			if others != nil {
				said = append(said, said...)
			}
			after := ticks(t, c, ended(c, 1, failed(api.ErrOver, 0)), append(said, drops(1, 1, 2, 3)...)...)
			reports(t, after, 1, failed(api.ErrOver, 0))
		}
	}
}

// P28.4: a task that fell, at that tick or ahead of it, with either Err: the first one says why.
func TestTickToFailure(t *testing.T) {
	said := append(wants(1, 3, 3, 2), drops(1, 1, 2, 3)...)
	c := laid([]api.Task{falls(1)}, entry(runs(1, faulty(), "c"), nil, nil))
	ticks(t, c, ended(c, 1, failed(api.ErrFault, 0)), said...)
	for _, e := range []api.Errno{api.ErrFault, api.ErrOver} {
		c = laid([]api.Task{fell(1, 1, e)}, entry(runs(1, faulty(), "c"), nil, nil))
		ticks(t, c, ended(c, 1, failed(e, 0)), said...)
	}
	c = laid([]api.Task{gathers(1), fell(1, 4, api.ErrOver), fell(1, 7, api.ErrFault)}, entry(runs(1, faulty(), "c"), nil, nil))
	ticks(t, c, ended(c, 1, failed(api.ErrOver, 0)), slices.Concat(wants(1, 3, 2, 1), wants(1, 3, 3, 2), wants(1, 3, 3, 2), drops(1, 1, 2, 3))...)
}

// P28.4: rows and a task that fell, both at once, whichever is first: the rows count.
func TestTickToBoth(t *testing.T) {
	for _, tasks := range [][]api.Task{{fell(1, 0, api.ErrFault), done(1, "5")}, {done(1, "5"), fell(1, 2, api.ErrFault)}, {fell(1, 0, api.ErrOver), done(1, "5"), fell(1, 2, api.ErrFault)}} {
		c := laid(tasks, entry(runs(1, small(), "c"), nil, nil))
		var said []api.Msg
		for range tasks {
			said = append(said, wants(1, 3, 3, 2)...)
		}
		ticks(t, c, ended(c, 1, came(list("5"), "c")), append(said, drops(1, 1, 2, 3)...)...)
	}
	first, second := done(1, "7"), done(1, "8")
	second.Number = 2
	c := laid([]api.Task{first, second}, entry(runs(1, small(), "c"), []int{1}, nil))
	ticks(t, c, ended(c, 1, came(list("7"), "c")), slices.Concat(wants(1, 3, 3, 2), wants(1, 3, 3, 2), drops(1, 1, 2, 3))...)
}

// P28.4: of several queries each ends by its own tasks, or does not.
func TestTickOfSeveral(t *testing.T) {
	c := laid([]api.Task{gathers(1), ready(2), falls(3), done(4, "1"), fell(5, 0, api.ErrOver), gathers(6)},
		entry(runs(1, small(), "a"), []int{1, 2, 3}, nil), entry(runs(2, small(), "b"), []int{1, 2, 3}, nil), entry(runs(3, faulty(), "c"), nil, nil), entry(runs(4, small(), "d"), nil, nil), entry(runs(5, twice(), "e"), nil, nil), entry(runs(6, twice(), "f"), nil, nil))
	want := ended(ended(c, 2, came(list("3 / 5 / 9"), "b")), 3, failed(api.ErrFault, 0))
	want = ended(ended(want, 4, came(list("1"), "d")), 5, failed(api.ErrOver, 0))
	said := slices.Concat(wants(1, 3, 2, 1), wants(2, 3, 3, 2), wants(3, 3, 3, 2), wants(4, 3, 3, 2), wants(5, 3, 3, 2), wants(6, 3, 2, 1))
	for epoch := 2; epoch <= 5; epoch++ {
		said = append(said, drops(epoch, 1, 2, 3)...)
	}
	c = ticks(t, c, want, append(said, plans(6, twice(), 1, 2, 3)...)...)
	for epoch := 1; epoch <= 6; epoch++ {
		if epoch == 1 || epoch == 6 {
			hasNoReport(t, c, epoch)
		} else {
			reports(t, c, epoch, want.Entries[epoch-1].Life.Report)
		}
	}
}

// P28.4: what is over says nothing of its streams any more, and its tasks never go on.
func TestTickOfEnded(t *testing.T) {
	c := laid([]api.Task{ready(1)}, entry(runs(1, small(), "c"), []int{1}, nil))
	c = cancels(t, c, 1, ended(c, 1, failed(api.ErrCancel, 0)))
	for range 3 {
		c = ticks(t, c, c, drops(1, 1, 2, 3)...)
	}
	reports(t, c, 1, failed(api.ErrCancel, 0))
}
