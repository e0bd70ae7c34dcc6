package worker_test

import (
	"slices"
	"testing"

	"bowsprit/api"
	"bowsprit/frame"
	"bowsprit/prop"
)

// says is what a node says of an epoch to what the coordinator said; the coordinator's own says nothing.
func says(m api.Msg) []api.Msg {
	if m.From == 0 {
		return nil
	}
	return []api.Msg{m}
}

// withTasks is a worker that has one epoch more, whose tasks stand at a place.
func withTasks(w api.Worker, epoch, place int, l ...api.Task) api.Worker {
	return changing(w, func(w *api.Worker) {
		w.Has |= setOf(epoch)
		w.Tasks = slices.Insert(w.Tasks, place, l...)
	})
}

// P26.3: a plan of all Ways at each node of so many, of each epoch: its tasks there begin, several of them.
func TestPlan(t *testing.T) {
	p := fourWays()
	for nodes := 1; nodes <= api.MaxSites; nodes++ {
		for node := range nodes + 1 {
			w := placed(nodes, node)
			for e := 1; e <= api.MaxEpochs; e += nodes {
				var l []api.Task
				for _, number := range map[bool][]int{true: {3, 5}, false: {0, 1, 2, 4}}[node == 0] {
					l = append(l, begun(p, e, nodes, number, node))
				}
				after := hears(t, w, planned(p, e, node, nodes), withTasks(w, e, 0, l...), says(have(e, node))...)
				knows(t, after, e, 1)
			}
		}
	}
}

// P26.3: a plan of which one fragment runs at each node, and one of as many as there may be.
func TestPlanOfOneAndMany(t *testing.T) {
	for node := range sites + 1 {
		w := plain(node)
		number := map[bool]int{true: 1, false: 0}[node == 0]
		hears(t, w, planned(small(), 4, node, sites), withTasks(w, 4, 0, begun(small(), 4, sites, number, node)), says(have(4, node))...)
	}
	long := planOf(onAll(api.WayShuffle, scanU()))
	long.Frags[0].Cols = []int{0}
	for frag := 1; frag < api.MaxFrags-1; frag++ {
		long.Frags = append(long.Frags, by(onAll(api.WayShuffle, input(frag-1, ki)), 0))
	}
	long.Frags[api.MaxFrags-2].Way, long.Frags[api.MaxFrags-2].Cols = api.WayGather, nil
	long.Frags = append(long.Frags, root(input(api.MaxFrags-2, ki)))
	w := plain(4)
	var l []api.Task
	for frag := range api.MaxFrags - 1 {
		l = append(l, begun(long, 9, sites, frag, 4))
	}
	hears(t, w, planned(long, 9, 4, sites), withTasks(w, 9, 0, l...), have(9, 4))
	w = plain(0)
	hears(t, w, planned(long, 9, 0, sites), withTasks(w, 9, 0, begun(long, 9, sites, api.MaxFrags-1, 0)))
}

// P26.3: tasks of a new epoch stand among those of others by their epoch, whatever order these begin in.
func TestPlansInAnyOrder(t *testing.T) {
	p := fourWays()
	of := func(e int) (l []api.Task) {
		for _, number := range []int{0, 1, 2, 4} {
			l = append(l, begun(p, e, sites, number, 2))
		}
		return l
	}
	places := map[int]int{4: 3, 5: 3, 6: 3, 9: 6, 10: 6}
	for e, place := range places {
		hears(t, full(2), planned(p, e, 2, sites), withTasks(full(2), e, place, of(e)...), have(e, 2))
	}
	m := newMaker(263)
	for range 20 {
		w := plain(2)
		for _, k := range m.Perm(api.MaxEpochs) {
			e := k + 1
			place := 4 * len(slices.DeleteFunc(bits(w.Has), func(other int) bool { return other > e }))
			w = hears(t, w, planned(p, e, 2, sites), withTasks(w, e, place, of(e)...), have(e, 2))
		}
		if len(w.Tasks) != 4*api.MaxEpochs {
			t.Error(short(w))
		}
	}
}

// P26.3: a plan of an epoch that there is already changes nothing, and the node says that it has it, or was told to drop it; whatever plan, if it may be laid.
func TestPlanToldAgain(t *testing.T) {
	plans := append(noPlans(), fourWays(), small())
	for node := range sites + 1 {
		w := full(node)
		for _, p := range plans {
			for _, e := range []int{1, 3, 7, 11, 12} {
				hears(t, w, planned(p, e, node, sites), w, says(have(e, node))...)
			}
			for _, e := range []int{2, 8} {
				hears(t, w, planned(p, e, node, sites), w, says(gone(e, node))...)
			}
		}
	}
}

// noPlans may be laid, but may not be over the catalog that tables says.
func noPlans() []api.Plan {
	scanT := scan(0, ki, kt)
	return []api.Plan{
		planOf(onAll(api.WayGather, scanU())), planOf(root(input(0, ki))), planOf(onAll(api.WayGather, scanU()), root(input(0, ki)), root(input(0, ki))),
		planOf(onAll(api.WayGather, scan(2, ki)), root(input(0, ki))), planOf(onAll(api.WayGather, scan(1, kt)), root(input(0, kt))), planOf(onAll(api.WayGather, scan(0, ki)), root(input(0, ki))), planOf(onAll(api.WayGather, scan(1, ki, ki)), root(input(0, ki, ki))),
		planOf(onAll(api.WayGather, scanU()), root(input(0, kt))), planOf(onAll(api.WayCast, scanU()), root(input(0, ki))), planOf(onAll(api.WayGather, scanU()), onAll(api.WayRoot, input(0, ki))), planOf(onAll(api.WayGather, scanU()), onOne(api.WayGather, input(0, ki))),
		planOf(root(input(1, ki)), onAll(api.WayGather, scanU())), planOf(onAll(api.WayGather, scanU()), root(input(0, ki), input(0, ki), union())), planOf(onAll(api.WayGather, scanU()), onAll(api.WayGather, scanU()), root(input(0, ki))),
		planOf(onOne(api.WayGather, scanU()), root(input(0, ki))), planOf(by(onAll(api.WayShuffle, scanU()), 1), onAll(api.WayGather, input(0, ki)), root(input(1, ki))), planOf(onAll(api.WayGather, scanT), root(input(0, ki, ki))),
		planOf(by(onAll(api.WayGather, scanU()), 0), root(input(0, ki))), planOf(onAll(api.WayShuffle, scanU()), onAll(api.WayGather, input(0, ki)), root(input(1, ki))),
	}
}

// P26.3: a plan that may not be over the catalog begins nothing, and the node says nothing; over another catalog the same plan may be.
func TestPlanThatMayNot(t *testing.T) {
	for _, p := range noPlans() {
		if e := frame.Check(planned(p, 5, 1, sites)); e != api.OK {
			t.Fatal(p, e)
		}
		if _, _, e := prop.Check(p, tables()); e == api.OK {
			t.Fatal(p)
		}
		for node := range sites + 1 {
			deaf(t, plain(node), planned(p, 5, node, sites))
			deaf(t, full(node), planned(p, 5, node, sites))
		}
	}
	for _, c := range []api.Catalog{{}, cat(tab("u", "c int")), cat(tab("u", "c int"), tab("t", "a text")), cat(tab("u", "c int"), tab("t", "a int b int")), cat(tab("u", "c int"), tab("t", "a bool"), tab("v", "a int"))} {
		deaf(t, api.Worker{Sites: sites, Catalog: c}, planned(small(), 5, 0, sites))
		deaf(t, api.Worker{Sites: sites, Node: 1, Catalog: c, Tables: make([][]api.Row, len(c.Tables))}, planned(small(), 5, 1, sites))
	}
	w := api.Worker{Sites: sites, Node: 1, Catalog: cat(tab("u", "c text"), tab("t", "z int", 0)), Tables: make([][]api.Row, 2)}
	hears(t, w, planned(small(), 5, 1, sites), withTasks(w, 5, 0, begun(small(), 5, sites, 0, 1)), have(5, 1))
}

// P26.3: a plan of other Sites, from another node, to another node, whether the epoch is there or not.
func TestPlanOfOthers(t *testing.T) {
	for node := range sites + 1 {
		w := full(node)
		for _, e := range []int{1, 2, 3, 4, 8, 9, 12} {
			for n := 1; n <= api.MaxSites; n++ {
				if n != sites {
					deaf(t, w, planned(small(), e, node, n))
				}
				deaf(t, w, changing(planned(small(), e, node, sites), func(m *api.Msg) { m.From = n }))
			}
			for to := range api.MaxSites + 1 {
				if to != node {
					deaf(t, w, planned(small(), e, to, sites), changing(planned(small(), e, to, sites), func(m *api.Msg) { m.From = node }))
				}
			}
		}
	}
}

// P26.3: an epoch is dropped, whether its tasks are there, or it has none, or was dropped, or never was; then no plan of it begins.
func TestDrop(t *testing.T) {
	left := map[int][]int{3: {3, 4, 5, 6, 7, 8}, 7: {0, 1, 2, 6, 7, 8}, 11: {0, 1, 2, 3, 4, 5, 8}, 12: {0, 1, 2, 3, 4, 5, 6, 7}}
	for node := range sites + 1 {
		w := full(node)
		for e := 1; e <= api.MaxEpochs; e++ {
			want := changing(w, func(w *api.Worker) {
				w.Has, w.Gone = w.Has&^setOf(e), w.Gone|setOf(e)
				if places, ok := left[e]; ok {
					var l []api.Task
					for _, k := range places {
						l = append(l, w.Tasks[k])
					}
					w.Tasks = l
				}
			})
			after := hears(t, w, dropped(e, node), want, says(gone(e, node))...)
			knows(t, after, e, 2)
			isUp(t, after, e)
			hasNone(t, after, e)
			hears(t, after, dropped(e, node), after, says(gone(e, node))...)
			hears(t, after, planned(small(), e, node, sites), after, says(gone(e, node))...)
			deaf(t, after, data(e, 2, 0, node, 1, batch(1)), ack(e, 4, 1, node, 3, 20))
		}
	}
	w := plain(3)
	for e := 1; e <= api.MaxEpochs; e++ {
		w = hears(t, w, dropped(e, 3), changing(w, func(w *api.Worker) { w.Gone |= setOf(e) }), gone(e, 3))
	}
	for e := 1; e <= api.MaxEpochs; e++ {
		w = hears(t, w, planned(fourWays(), e, 3, sites), w, gone(e, 3))
	}
}

// P26.3: what other nodes say of dropping, and what is for others.
func TestDropOfOthers(t *testing.T) {
	for node := range sites + 1 {
		w := full(node)
		for e := 1; e <= api.MaxEpochs; e++ {
			for from := 1; from <= api.MaxSites; from++ {
				deaf(t, w, told(api.MsgDrop, e, from, node))
			}
			for to := range api.MaxSites + 1 {
				if to != node {
					deaf(t, w, dropped(e, to), told(api.MsgDrop, e, node, to))
				}
			}
		}
	}
}
