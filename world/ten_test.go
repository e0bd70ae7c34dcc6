package world_test

import (
	"slices"
	"testing"

	"bowsprit/api"
	"bowsprit/coord"
	"bowsprit/frame"
	"bowsprit/query"
	"bowsprit/world"
)

// waysOf are where the rows of a text's fragments go, in order.
func waysOf(t *testing.T, c api.Catalog, text string) (l []int, p api.Plan) {
	t.Helper()
	x, _, e := query.Compile(c, text)
	must(t, e)
	for _, f := range x.Plan.Frags {
		l = append(l, f.Way)
	}
	return l, x.Plan
}

// opsOf are the operators of a fragment.
func opsOf(f api.Frag) (l []int) {
	for _, n := range f.Nodes {
		l = append(l, n.Op)
	}
	return l
}

// comesTo holds that a text is reported so, if nothing is lost.
func comesTo(t *testing.T, c api.Catalog, l api.Layout, text string, want api.Report) {
	t.Helper()
	w := rounds(t, goes(t, worldOf(c, l), submit(text)), 40)
	reports(t, w, 1, want)
	if !coord.Quiet(w.Coord) {
		t.Errorf("%q: %v", text, w.Coord)
	}
}

// ofTables is a layout of the rows of each node, table by table.
func ofTables(nodes ...[]string) (l api.Layout) {
	for _, tables := range nodes {
		var b api.Base
		for _, s := range tables {
			b.Tables = append(b.Tables, list(s))
		}
		l.Parts = append(l.Parts, b)
	}
	return l
}

// The first five of the ten examples of the whole, and the last one: which plan there is, and what is reported.
func TestTenPlans(t *testing.T) {
	c, l := tables(), parts()
	ways, p := waysOf(t, c, ofU) // 1
	if !slices.Equal(ways, []int{api.WayGather, api.WayRoot}) {
		t.Error(p)
	}
	comesTo(t, c, l, ofU, came("3 / 5 / 9", "c"))

	groups := "SELECT b, SUM(a) FROM t GROUP BY b" // 2
	ways, p = waysOf(t, c, groups)
	if !slices.Equal(ways, []int{api.WayShuffle, api.WayGather, api.WayRoot}) || !slices.Contains(opsOf(p.Frags[0]), api.LPartial) || !slices.Contains(opsOf(p.Frags[1]), api.LFinal) || !slices.Equal(p.Frags[0].Cols, []int{0}) {
		t.Error(p)
	}
	comesTo(t, c, l, groups, came("'' 5 / 'x' 4 / 'y' 2 / 'z' 9", "b", ""))

	both := cat(tab("t", "a int b text", 0), tab("u", "c int", 0)) // 3
	joined := "SELECT a, b FROM t JOIN u ON a = c"
	ways, p = waysOf(t, both, joined)
	if !slices.Equal(ways, []int{api.WayGather, api.WayRoot}) || !slices.Contains(opsOf(p.Frags[0]), api.LJoin) {
		t.Error(p)
	}
	comesTo(t, both, ofTables([]string{"1 'x' / 2 'y'", "2 / 3 / 2"}), joined, came("2 'y' / 2 'y'", "a", "b"))

	divides := "SELECT a, c FROM t JOIN u ON a / c = 1" // 4
	ways, p = waysOf(t, c, divides)
	if !slices.Equal(ways, []int{api.WayCast, api.WayGather, api.WayRoot}) || p.Frags[0].Nodes[0].Table != 1 {
		t.Error(p)
	}
	comesTo(t, c, l, divides, came("3 3 / 5 3 / 5 5 / 9 5 / 9 9", "a", "c"))
	comesTo(t, c, placed("1 'x' / 2 'y'", "1", "", "0"), divides, failed(api.ErrFault, 0))

	first := "SELECT c FROM u ORDER BY c DESC LIMIT 2" // 5
	ways, p = waysOf(t, c, first)
	for _, f := range p.Frags {
		if n := f.Nodes[len(f.Nodes)-1]; n.Op != api.LSort || n.Limit != 2 {
			t.Error(n)
		}
	}
	if len(ways) != 2 {
		t.Error(p)
	}
	comesTo(t, c, l, first, came("9 / 5", "c"))

	many := "1 / 2 / 3 / 4 / 5 / 6" // 10
	comesTo(t, c, placed("", many, many), "SELECT p.c FROM u p JOIN u q ON TRUE JOIN u r ON TRUE", failed(api.ErrOver, 0))
}

// troubled is a world behind fair rounds, but that something else happens to the parcel of a Num, ahead of the others that are there with it.
func troubled(t *testing.T, w api.World, num uint64, trouble ...api.Event) api.World {
	t.Helper()
	for w.Net.Sent < num {
		for node := range len(w.Workers) + 1 {
			w, _ = world.Do(w, tick(node))
		}
		for len(w.Net.Parcels) > 0 {
			if w.Net.Sent >= num && len(trouble) > 0 {
				for _, e := range trouble {
					var r api.Reply
					w, r = world.Do(w, e)
					must(t, r.Err)
				}
				trouble = nil
			} else {
				w, _ = world.Do(w, come(w.Net.Parcels[0].Num))
			}
		}
	}
	w, e := world.Rounds(w, 30)
	must(t, e)
	return w
}

// The sixth and the seventh example, and P1, P5: whichever one parcel of all is lost, comes twice, or is spoiled: the report is the same, and all is forgotten.
func TestEachParcel(t *testing.T) {
	t.Parallel()
	texts := []string{ofU, ofBoth, faults}
	want := []api.Report{came("3 / 5 / 9", "c"), came("'' 1 / 'x' 1 / 'z' 1", "b", "n"), failed(api.ErrFault, 0)}
	for k, text := range texts {
		begun := reached(plain(), submit(text))
		last := behind(begun, 30)
		for num := uint64(1); num <= last.Net.Sent; num += uint64(1 + k*4) {
			for n, trouble := range [][]api.Event{{lose(num)}, {twin(num)}, {spoilt(num, int(num)%8, 4)}, {twin(num), come(num)}} {
				if k > 0 && n%2 != int(num)%2 {
					continue
				}
				w := troubled(t, begun, num, trouble...)
				if r, is := coord.Report(w.Coord, 1); !is || !same(r, want[k]) || !coord.Quiet(w.Coord) || len(w.Net.Parcels) > 0 {
					t.Errorf("%q, %v: %v, %v", text, trouble, r, w.Coord)
				}
			}
		}
	}
}

// isData tells whether a parcel has rows of an epoch.
func isData(p api.Parcel, epoch int) bool {
	m, e := frame.Decode(p.Bytes)
	return e == api.OK && m.Kind == api.MsgData && m.Epoch == epoch
}

// The eighth example, and P6: a query is cancelled while its rows are on their way; late as they are, they are nobody's, also when the next query has the same text.
func TestLateRows(t *testing.T) {
	w := rounds(t, goes(t, plain(), submit(ofU)), 1)
	w = goes(t, w, tick(0))
	for len(w.Net.Parcels) > 0 {
		w = goes(t, w, come(w.Net.Parcels[0].Num)) // the nodes hear how much room there is
	}
	w = goes(t, w, tick(1), tick(2), tick(3))
	late := w.Net.Parcels
	if len(late) < 5 || !isData(late[0], 1) {
		t.Fatal(late)
	}
	w = goes(t, w, cancel(1), submit(ofU), tick(0))
	reports(t, w, 1, failed(api.ErrCancel, 0))
	for round := range 20 {
		for _, p := range late { // each round all of them come once more
			w = of(w, func(w *api.World) {
				w.Net.Sent++
				p.Num = w.Net.Sent
				w.Net.Parcels = append(w.Net.Parcels, p)
			})
		}
		next, e := world.Rounds(w, 1)
		must(t, e)
		w = next
		reports(t, w, 1, failed(api.ErrCancel, 0))
		if r, is := coord.Report(w.Coord, 2); is && !same(r, came("3 / 5 / 9", "c")) || is != (round > 1) {
			t.Fatal(round, r, is)
		}
	}
	if !coord.Quiet(w.Coord) || len(w.Coord.Worker.Tasks) > 0 {
		t.Error(w.Coord)
	}
}

// The ninth example: as many queries at once as there may be: each has its own report, whichever of them is cancelled.
func TestQueriesAtOnce(t *testing.T) {
	texts := []string{ofU, ofBoth, unwise, faults, "SELECT COUNT(*) AS n FROM u", "SELECT c FROM u WHERE c > 4 ORDER BY c DESC"}
	want := []api.Report{came("3 / 5 / 9", "c"), came("'' 1 / 'x' 1 / 'z' 1", "b", "n"), failed(api.ErrName, 4), failed(api.ErrFault, 0), came("3", "n"), came("9 / 5", "c")}
	for _, gone := range []int{0, 7, 8, 11, 12} {
		w := plain()
		for k := range api.MaxEpochs {
			w = reached(w, submit(texts[k%6]))
			if k%3 == 2 {
				w = behind(w, 1)
			}
		}
		if gone > 6 {
			w = reached(w, cancel(gone))
		}
		w, e := world.Rounds(w, 30)
		must(t, e)
		for k := range api.MaxEpochs {
			r := want[k%6]
			if gone > 6 && k+1 == gone {
				r = failed(api.ErrCancel, 0)
			}
			reports(t, w, k+1, r)
		}
		if !coord.Quiet(w.Coord) {
			t.Error(w.Coord)
		}
	}
}
