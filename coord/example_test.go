package coord_test

import (
	"testing"

	"bowsprit/api"
)

// P28.1 to P28.5: the chapter's examples, one behind the other.
func TestChapter(t *testing.T) {
	made := asRule(t, "New", given{Catalog: cat(tab("t", "a int")), Sites: 2})
	want := api.Coord{Worker: api.Worker{Sites: 2, Catalog: cat(tab("t", "a int"))}}
	if !same(made, answer{Coord: want}) {
		t.Fatal(made)
	}
	isQuiet(t, true, want)
	want = of(want, func(c *api.Coord) { c.Entries = []api.Entry{entry(over(1, failed(api.ErrName, 4)), nil, nil)} })
	c := submits(t, made.Coord, "SELECT b FROM t", want)
	reports(t, c, 1, failed(api.ErrName, 4))
	isQuiet(t, true, c)

	p := planOf(onAll(api.WayGather, scan(0, ki), picked(0), sortBy(-1)), root(input(0, ki), sortBy(-1)))
	waiting := taskOf(2, 1, api.TaskGathers, p.Frags[1], []api.In{{From: 1, Receiver: waits(2, 1)}, {From: 2, Receiver: waits(2, 1)}})
	waiting.Sites = 2
	want = of(want, func(c *api.Coord) {
		c.Worker.Has, c.Worker.Tasks = setOf(2), []api.Task{waiting}
		c.Entries = append(c.Entries, entry(runs(2, p, "a"), nil, nil))
	})
	c = submits(t, c, "SELECT a FROM t", want)
	hasNoReport(t, c, 2)
	isQuiet(t, false, c)
	toEach := plans(2, p, 1, 2)
	for k := range toEach {
		toEach[k].Sites = 2
	}
	c = ticks(t, c, want, append(wants(2, 1, 1), toEach...)...)

	want = of(want, func(c *api.Coord) { c.Entries[1].Has = setOf(1) })
	c = hears(t, c, have(2, 1), want)
	c = ticks(t, c, want, append(wants(2, 1, 1), toEach[1])...)

	want = ended(want, 2, failed(api.ErrFault, 0))
	c = hears(t, c, fails(2, 2, api.ErrFault), want)
	reports(t, c, 2, failed(api.ErrFault, 0))
	refuses(t, "Cancel", given{Coord: c, Epoch: 2}, api.ErrReported)
	isQuiet(t, false, c)

	c = ticks(t, c, want, drops(2, 1, 2)...)
	want = of(want, func(c *api.Coord) { c.Entries[1].Gone = setOf(1) })
	c = hears(t, c, gone(2, 1), want)
	isQuiet(t, false, c)
	want = of(want, func(c *api.Coord) { c.Entries[1].Gone = setOf(1, 2) })
	c = hears(t, c, gone(2, 2), want)
	isQuiet(t, true, c)
	ticks(t, c, want)
	reports(t, c, 1, failed(api.ErrName, 4))
	reports(t, c, 2, failed(api.ErrFault, 0))
}
