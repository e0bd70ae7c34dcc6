package mean_test

import (
	"slices"
	"testing"

	"bowsprit/api"
	"bowsprit/mean"
)

// heaped is a plan whose fragment 2 comes, at each node, to so many rows as the square of u's, or that twice, and as many more as w has there; they go on by a Way to what the fragment 3 has.
func heaped(t *testing.T, nodes, u, w int, twice bool, way int, cols []int, last ...api.LNode) run {
	t.Helper()
	heap := []api.LNode{input(0, ki), input(1, ki), each(), picked(0)}
	if twice {
		heap = append(heap, input(2, ki), input(3, ki), each(), picked(0), union())
	}
	heap = append(heap, scanW(), picked(0), union(), project(num(7)))
	var frags []api.Frag
	for len(frags) < 4 && (twice || len(frags) < 2) {
		frags = append(frags, onAll(api.WayCast, scanU()))
	}
	count := len(frags)
	frags = append(frags, by(onAll(way, heap...), cols...))
	reader := []api.LNode{input(count, ki)}
	reader = append(reader, last...)
	if way == api.WayGather {
		frags = append(frags, root(reader...))
	} else {
		frags = append(frags, onAll(api.WayGather, reader...), root(input(count+1, ki)))
	}
	var texts []api.Row
	for range w {
		texts = append(texts, api.Row{number(1), null})
	}
	return of(laid(some(), nodes, numbers(1, nodes), nil, counted(u), nil, texts), frags...)
}

// P21.1 to P21.3: of several streams just as many rows come as one operator may have, and one more: then that is too much, at one node, at all, and at the one where all of them lie.
func TestTooMuchOfSeveral(t *testing.T) {
	sevens := slices.Repeat(list("7"), api.MaxRows)
	count := group(nil, agg(api.AggAll))
	for _, x := range []struct{ nodes, u int }{{2, 10}, {8, 5}} { // 100 rows from each of two nodes, 25 from each of eight
		for w := range 2 {
			r := heaped(t, x.nodes, x.u, w, false, api.WayGather, nil)
			if w == 0 {
				r.means(t, api.Mean{Rows: sevens})
			} else {
				r.meansEnds(t, false, true)
				r.ends(t, 3, 0, api.ErrOver)
			}
			r.isStream(t, api.Stream{Frag: 2, From: x.nodes}, sevens[:x.u*x.u])
			r.isStream(t, api.Stream{Frag: 2, From: 1}, sevens[:x.u*x.u+w])
			r = heaped(t, x.nodes, x.u, w, false, api.WayCast, nil, count)
			for node := 1; node <= x.nodes; node++ {
				r.isStream(t, api.Stream{Frag: 2, From: 1, To: node}, sevens[:x.u*x.u+w])
				if w == 0 {
					r.comes(t, 3, node, "200")
				} else {
					r.ends(t, 3, node, api.ErrOver)
				}
			}
			home := nodeOf(api.Row{number(7)}, []int{0}, x.nodes)
			r = heaped(t, x.nodes, x.u, w, false, api.WayShuffle, []int{0}, count)
			for node := 1; node <= x.nodes; node++ {
				switch {
				case node != home:
					r.comes(t, 3, node, "0")
				case w == 0:
					r.comes(t, 3, node, "200")
				default:
					r.ends(t, 3, node, api.ErrOver)
				}
			}
			if got, e := mean.Mean(r.Plan, r.Catalog, r.Layout); e != api.OK || got.Over != (w == 1) || got.Fault {
				t.Error(got, e)
			}
		}
	}
}

// P21.1 to P21.3: MaxRows rows of each instance are the most that there may be, from MaxSites nodes: far less than MaxList together, and so none of them are refused; they are too much for what reads them. One more row of one instance, and that one is too much.
func TestTheMostThereMayBe(t *testing.T) {
	sevens := slices.Repeat(list("7"), api.MaxRows)
	for _, x := range []struct {
		way  int
		cols []int
	}{{api.WayGather, nil}, {api.WayCast, nil}, {api.WayShuffle, []int{0}}} {
		r := heaped(t, api.MaxSites, 10, 0, true, x.way, x.cols)
		home := nodeOf(api.Row{number(7)}, []int{0}, api.MaxSites)
		for node := 1; node <= api.MaxSites; node++ {
			r.is(t, 4, node, told{rows: sevens, reached: true})
		}
		for _, node := range placesByRule(r.Plan, 5, api.MaxSites) {
			if x.way == api.WayShuffle && node != home {
				r.comes(t, 5, node, "")
			} else {
				r.ends(t, 5, node, api.ErrOver)
			}
		}
		r.meansEnds(t, false, true)
		r = heaped(t, api.MaxSites, 10, 1, true, x.way, x.cols)
		r.ends(t, 4, 1, api.ErrOver)
		r.is(t, 4, 2, told{rows: sevens, reached: true})
		for _, node := range placesByRule(r.Plan, 5, api.MaxSites) {
			r.unreached(t, 5, node)
		}
		r.meansEnds(t, false, true)
	}
	if api.MaxRows*api.MaxSites > api.MaxList {
		t.Error("there may be more")
	}
}
