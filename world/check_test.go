package world_test

import (
	"slices"
	"testing"

	"bowsprit/api"
	"bowsprit/coord"
	"bowsprit/frame"
	"bowsprit/place"
	"bowsprit/worker"
)

// TestMidst holds that midst is in the midst of its work: what the other tests hold of it would say little otherwise.
func TestMidst(t *testing.T) {
	w := midst()
	kinds, spoiled, tasks := map[int]int{}, 0, 0
	for _, p := range w.Net.Parcels {
		if m, e := frame.Decode(p.Bytes); e == api.OK {
			kinds[m.Kind]++
		} else if p.Spoiled {
			spoiled++
		}
	}
	for _, x := range w.Workers {
		tasks += len(x.Tasks)
	}
	for _, kind := range []int{api.MsgPlan, api.MsgData, api.MsgAck, api.MsgDrop} {
		if kinds[kind] < 2 {
			t.Error(kind, kinds)
		}
	}
	if spoiled == 0 || tasks < 6 || len(w.Coord.Worker.Tasks) < 2 || len(w.Coord.Entries) != 6 || coord.Quiet(w.Coord) {
		t.Error(spoiled, tasks, w.Coord)
	}
	w = done()
	want := []api.Report{came("3 / 5 / 9", "c"), came("'' 1 / 'x' 1 / 'z' 1", "b", "n"), failed(api.ErrName, 4), failed(api.ErrFault, 0), failed(api.ErrCancel, 0), came("3 / 5 / 9", "c")}
	for k, r := range want {
		reports(t, w, k+1, r)
	}
	if !coord.Quiet(w.Coord) || len(w.Net.Parcels) > 0 {
		t.Error(w)
	}
}

// P29.1: those that may be: at their beginning, in the midst of their work, behind it; of as many nodes as there may be, of no table and of no row.
func TestWorldsThatMayBe(t *testing.T) {
	for _, w := range worlds() {
		isWorld(t, true, w)
	}
	for nodes := 1; nodes <= api.MaxSites; nodes++ {
		isWorld(t, true, worldOf(api.Catalog{}, api.Layout{Parts: make([]api.Base, nodes)}))
		isWorld(t, true, worldOf(tables(), placed("1 'x' / 2 'y' / NULL NULL", slices.Repeat([]string{"1"}, nodes)...)))
		isWorld(t, true, worldOf(tables(), placed("", make([]string, nodes)...)))
	}
}

// P29.1: a coordinator that may not be, each in another way.
func TestCoords(t *testing.T) {
	for _, w := range worlds() {
		for _, change := range []func(c *api.Coord){
			func(c *api.Coord) { c.Worker.Node = 1 }, func(c *api.Coord) { c.Worker.Gone |= 1 }, func(c *api.Coord) { c.Worker.Has |= setOf(12) }, func(c *api.Coord) { c.Worker.Tables = [][]api.Row{nil, nil} },
			func(c *api.Coord) { c.Entries = append(c.Entries, api.Entry{}) }, func(c *api.Coord) {
				c.Entries = append([]api.Entry{{Life: over(1, failed(api.ErrName, 0)), Gone: 16}}, c.Entries...)
			},
		} {
			isWorld(t, false, of(w, func(w *api.World) { change(&w.Coord) }))
		}
	}
	isWorld(t, false, of(midst(), func(w *api.World) { w.Coord.Entries[0].Has = 1 }))
	isWorld(t, false, of(done(), func(w *api.World) { w.Coord.Entries[0].Life.Report.Names = nil }))
	isWorld(t, true, of(plain(), func(w *api.World) { w.Coord.Entries = []api.Entry{{Life: over(1, failed(api.ErrName, 0))}} }))
}

// P29.1: as many workers as there are nodes: none, one too few, one too many.
func TestCountOfWorkers(t *testing.T) {
	for _, w := range worlds() {
		isWorld(t, false, of(w, func(w *api.World) { w.Workers = nil }))
		isWorld(t, false, of(w, func(w *api.World) { w.Workers = w.Workers[:sites-1] }))
		isWorld(t, false, of(w, func(w *api.World) { w.Workers = w.Workers[1:] }))
		for node := range api.MaxSites + 2 {
			isWorld(t, false, of(w, func(w *api.World) {
				w.Workers = append(w.Workers, api.Worker{Node: node, Sites: sites, Catalog: tables(), Tables: make([][]api.Row, 2)})
			}))
		}
		for nodes := -1; nodes <= api.MaxSites+1; nodes++ { // the coordinator tells how many there are to be
			isWorld(t, nodes == sites, of(w, func(w *api.World) { w.Coord.Worker.Sites = nodes }))
		}
	}
	w := worldOf(api.Catalog{}, api.Layout{Parts: make([]api.Base, api.MaxSites)})
	isWorld(t, false, of(w, func(w *api.World) { w.Workers = append(w.Workers, api.Worker{Node: 9, Sites: 8}) }))
	isWorld(t, false, of(w, func(w *api.World) { w.Workers = w.Workers[:7] }))
	isWorld(t, false, api.World{})
	isWorld(t, false, api.World{Coord: api.Coord{Worker: api.Worker{Sites: 1}}})
	isWorld(t, true, api.World{Coord: api.Coord{Worker: api.Worker{Sites: 1}}, Workers: []api.Worker{{Node: 1, Sites: 1}}})
	isWorld(t, false, api.World{Workers: []api.Worker{{Node: 1, Sites: 1}}})
}

// P29.1: a worker that may not be; one that may be, but of another node than its place, of other sites, of another catalog.
func TestWorkers(t *testing.T) {
	for _, w := range worlds() {
		for k := range w.Workers {
			at := func(change func(x *api.Worker)) api.World {
				return of(w, func(w *api.World) { change(&w.Workers[k]) })
			}
			for _, change := range []func(x *api.Worker){
				func(x *api.Worker) { x.Has |= 1 }, func(x *api.Worker) { x.Gone |= setOf(13) }, func(x *api.Worker) { x.Has, x.Gone = setOf(3), setOf(3) }, func(x *api.Worker) { x.Tasks = append(x.Tasks, api.Task{}) },
				func(x *api.Worker) { x.Tables = x.Tables[:1] }, func(x *api.Worker) { x.Tables[1] = list("'a'") }, func(x *api.Worker) { x.Tables[1] = list("1 2") }, func(x *api.Worker) { x.Tables = nil },
			} {
				isWorld(t, false, at(change))
			}
			for node := -1; node <= sites+1; node++ {
				isWorld(t, node == k+1, at(func(x *api.Worker) { x.Node = node }))
				isWorld(t, node == k+1, of(w, func(w *api.World) { w.Workers[k] = another(w.Workers[max(0, min(node, sites)-1)], node, sites) }))
			}
			for n := range api.MaxSites + 2 {
				isWorld(t, n == sites, at(func(x *api.Worker) { *x = another(*x, k+1, n) }))
			}
		}
		isWorld(t, false, of(w, func(w *api.World) { slices.Reverse(w.Workers) }))
		isWorld(t, false, of(w, func(w *api.World) { w.Workers[1] = w.Workers[0] }))
	}
}

// another is a worker with the tables of one, but no tasks, of a node and of sites.
func another(x api.Worker, node, nodes int) api.Worker {
	return copyOf(api.Worker{Node: node, Sites: nodes, Catalog: x.Catalog, Tables: x.Tables})
}

// P29.1: a catalog that one worker, or the coordinator, has alone, however near to that of the others.
func TestCatalogs(t *testing.T) {
	for _, change := range []func(c *api.Catalog){
		func(c *api.Catalog) { c.Tables[0].Name = "v" }, func(c *api.Catalog) { c.Tables[0].Columns[1].Name = "c" }, func(c *api.Catalog) { c.Tables[0].Keys = nil }, func(c *api.Catalog) { c.Tables[0].Keys = []int{0, 1} },
		func(c *api.Catalog) { c.Tables[0].Keys = []int{1} }, func(c *api.Catalog) { c.Tables[1].Columns[0].Kind = kt }, func(c *api.Catalog) { c.Tables[1].Keys = []int{0} }, func(c *api.Catalog) { c.Tables[0], c.Tables[1] = c.Tables[1], c.Tables[0] },
	} {
		w := worldOf(tables(), api.Layout{Parts: []api.Base{{Tables: make([][]api.Row, 2)}, {Tables: make([][]api.Row, 2)}, {Tables: make([][]api.Row, 2)}}})
		isWorld(t, true, w)
		all := of(w, func(w *api.World) { change(&w.Coord.Worker.Catalog) })
		must(t, coord.Check(all.Coord))
		isWorld(t, false, all)
		for k := range w.Workers {
			one := of(w, func(w *api.World) { change(&w.Workers[k].Catalog) })
			must(t, worker.Check(one.Workers[k]))
			isWorld(t, false, one)
			change(&all.Workers[k].Catalog)
			isWorld(t, k == sites-1, all)
		}
	}
}

// P29.1: tables that are no layout of the catalog: a row at each node where its table's scheme does not let it lie.
func TestScheme(t *testing.T) {
	for _, w := range worlds() {
		for _, r := range list("1 'x' / 2 'y' / 7 NULL / NULL NULL / -4 'a'") {
			home, e := place.Where(tables(), 0, r, sites)
			must(t, e)
			for k := range w.Workers {
				more := of(w, func(w *api.World) { w.Workers[k].Tables[0] = append(w.Workers[k].Tables[0], r) })
				must(t, worker.Check(more.Workers[k]))
				isWorld(t, k+1 == home, more)
			}
		}
		for k := range w.Workers { // a row without a scheme lies anyhow
			isWorld(t, true, of(w, func(w *api.World) { w.Workers[k].Tables[1] = append(w.Workers[k].Tables[1], list("4")...) }))
		}
	}
	two := placed("1 'x' / 2 'y' / 3 'x' / 4 'x' / 5 'x'", "", "")
	for _, nodes := range []int{1, 2, 3} { // where rows lie hangs on how many nodes there are
		l := placed("1 'x' / 2 'y' / 3 'x' / 4 'x' / 5 'x'", make([]string, nodes)...)
		l.Parts[0], l.Parts[nodes-1] = l.Parts[nodes-1], l.Parts[0]
		isWorld(t, nodes == 1, worldOf(tables(), l))
	}
	isWorld(t, true, worldOf(tables(), two))
	two.Parts = append(two.Parts, api.Base{Tables: make([][]api.Row, 2)})
	isWorld(t, false, worldOf(tables(), two))
}

// P29.1: as many rows of a table as there may be in all parts together, and one more, though each part has few.
func TestCountOfRows(t *testing.T) {
	for _, c := range []api.Catalog{tables(), cat(tab("t", "a int b text", 0), tab("u", "c int", 0))} {
		for _, counts := range [][]int{{12, 0, 0}, {13, 0, 0}, {0, 0, 13}, {6, 6, 0}, {4, 4, 4}, {4, 5, 4}, {1, 1, 11}, {0, 1, 12}, {12, 12, 12}} {
			l := api.Layout{}
			for k, n := range counts {
				own := list("7")[0]
				for c.Tables[1].Keys != nil {
					if node, e := place.Where(c, 1, own, len(counts)); e != api.OK || node == k+1 {
						break
					}
					own[0].N++
				}
				l.Parts = append(l.Parts, api.Base{Tables: [][]api.Row{nil, slices.Repeat([]api.Row{own}, n)}})
			}
			isWorld(t, counts[0]+counts[1]+counts[2] <= api.MaxTable, worldOf(c, l))
		}
	}
	both := placed("1 'x' / 1 'x' / 1 'x' / 1 'x' / 1 'x' / 1 'x' / 1 'x' / 1 'x' / 1 'x' / 1 'x' / 1 'x' / 1 'x'", "1 / 2 / 3 / 4", "1 / 2 / 3 / 4", "1 / 2 / 3 / 4")
	isWorld(t, true, worldOf(tables(), both)) // of each table as many as may be
}

// P29.1: a net that may not be; such as may be, whatever is on its way in them.
func TestNets(t *testing.T) {
	for _, w := range worlds() {
		for _, n := range []api.Net{
			{Sent: 1, Parcels: many(2, 3)}, {Sent: api.MaxSent + 1}, {Sent: 2, Parcels: append(many(1, 1), many(1, 1)...)}, {Sent: 1, Parcels: []api.Parcel{{Num: 1, From: 1, To: 1}}}, {Sent: 1, Parcels: []api.Parcel{{Num: 1, From: 9}}},
			{Sent: 1, Parcels: []api.Parcel{{From: 1}}}, {Sent: 1, Parcels: []api.Parcel{{Num: 1, From: 1, Spoiled: true}}}, {Sent: 1, Parcels: many(1, api.MaxParcel+1)}, {Sent: api.MaxSent, Parcels: many(api.MaxWay+1, 0)},
		} {
			isWorld(t, false, of(w, func(w *api.World) { w.Net = n }))
		}
		for _, n := range []api.Net{
			{}, {Sent: api.MaxSent}, {Sent: 2, Parcels: many(2, 3)}, {Sent: 9, Parcels: []api.Parcel{{Num: 4, From: 8, To: 7, Bytes: []byte{1}, Spoiled: true}, {Num: 9, From: 0, To: 8}}}, {Sent: 1, Parcels: many(1, api.MaxParcel)}, {Sent: api.MaxSent, Parcels: many(api.MaxWay, 0)},
		} {
			isWorld(t, true, of(w, func(w *api.World) { w.Net = n }))
		}
	}
}

// P29.1: the layout of a world is the tables of its workers, wherever it stands; of what may not be there is none.
func TestLayout(t *testing.T) {
	for _, w := range worlds() {
		if got := asRule(t, "Layout", given{World: w}); !same(got, answer{Layout: parts()}) {
			t.Error(got)
		}
		refuses(t, "Layout", given{World: of(w, func(w *api.World) { w.Workers[0].Tables[0] = append(w.Workers[0].Tables[0], w.Workers[2].Tables[0]...) })}, api.ErrWorld)
		refuses(t, "Layout", given{World: of(w, func(w *api.World) { w.Net.Sent = api.MaxSent + 1 })}, api.ErrWorld)
	}
	for _, l := range []api.Layout{placed("", ""), placed("", "1 / 2", ""), placed("4 'x'", "", "1 / 2", "", "1 / 2"), placed("", make([]string, 8)...), placed("", strewn(8)...)} {
		if got := asRule(t, "Layout", given{World: worldOf(tables(), l)}); !same(got, answer{Layout: l}) {
			t.Error(got)
		}
	}
	bare := api.Layout{Parts: make([]api.Base, 4)}
	if got := asRule(t, "Layout", given{World: worldOf(api.Catalog{}, bare)}); !same(got, answer{Layout: bare}) {
		t.Error(got)
	}
}

// strewn is a row of u for each of so many nodes, unlike all others.
func strewn(nodes int) (l []string) {
	for k := range nodes {
		l = append(l, string(rune('1'+k)))
	}
	return l
}
