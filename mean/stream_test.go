package mean_test

import (
	"slices"
	"testing"

	"bowsprit/api"
)

// P21.3: streams between nodes just as they are, of each Way, from all nodes and from one.
func TestStreams(t *testing.T) {
	r := of(ofU("1 / 2 / 9", "2 / 3", ""), fourWays()...)
	for to := 1; to <= 3; to++ {
		r.goes(t, 0, 1, to, "1 / 2 / 9") // a cast, in full to each node
		r.goes(t, 0, 2, to, "2 / 3")
		r.goes(t, 0, 3, to, "")
	}
	for from, rows := range []string{"1 / 2 / 9", "2 / 3", ""} {
		for to := 1; to <= 3; to++ {
			r.isStream(t, api.Stream{Frag: 1, From: from + 1, To: to}, at(rows, to, 3))
		}
	}
	for node := 1; node <= 3; node++ {
		r.isStream(t, api.Stream{Frag: 2, From: node}, at("1 1 / 2 2 / 2 2 / 2 2 / 2 2 / 3 3 / 9 9", node, 3))
		r.isStream(t, api.Stream{Frag: 3, To: node}, at("1 / 2 / 2 / 2 / 2 / 3 / 9", node, 3))
	}
	r.goes(t, 5, 0, 0, "11 / 12 / 12 / 12 / 12 / 13 / 19")
}

// P21.3: rows that all have the same in the columns go to one node; on the other streams there are none, and there is no error.
func TestNoRowsOnAStream(t *testing.T) {
	for nodes := 1; nodes <= api.MaxSites; nodes++ {
		l := laid(some(), nodes, []int{nodes, 1}, nil, list("7 / 7 / 7"))
		r := of(l, by(onAll(api.WayShuffle, scanU()), 0), onAll(api.WayGather, input(0, ki)), root(input(1, ki)))
		home := nodeOf(api.Row{number(7)}, []int{0}, nodes)
		for from := 1; from <= nodes; from++ {
			rows := l.Parts[from-1].Tables[1]
			for to := 1; to <= nodes; to++ {
				want := ""
				if to == home {
					want = []string{"", "7", "7 / 7", "7 / 7 / 7"}[len(rows)]
				}
				r.goes(t, 0, from, to, want)
			}
			if from != home {
				r.goes(t, 1, from, 0, "")
				r.comes(t, 1, from, "")
			}
		}
		r.goes(t, 1, home, 0, "7 / 7 / 7")
		r.meansRows(t, "7 / 7 / 7")
	}
	for nodes := 1; nodes <= api.MaxSites; nodes++ {
		r := of(bare(some(), nodes), fourWays()...)
		for _, s := range streamsByRule(r.Plan, nodes) {
			r.goes(t, s.Frag, s.From, s.To, "")
		}
		r.meansRows(t, "")
	}
}

// P21.3: the rows stand on a stream as the fragment's root has them, whatever the Way.
func TestOrderOnAStream(t *testing.T) {
	sorted := []api.LNode{scanU(), sortBy(-1, down(0))}
	l := ofU("1 / 4 / 2", "3 / 5")
	of(l, onAll(api.WayGather, sorted...), root(input(0, ki))).goes(t, 0, 1, 0, "4 / 2 / 1")
	r := of(l, onAll(api.WayCast, sorted...), onAll(api.WayGather, input(0, ki)), root(input(1, ki)))
	r.goes(t, 0, 1, 1, "4 / 2 / 1")
	r.goes(t, 0, 1, 2, "4 / 2 / 1")
	r.goes(t, 0, 2, 1, "5 / 3")
	r.comes(t, 1, 2, "1 / 2 / 3 / 4 / 5")
	r = of(l, by(onAll(api.WayShuffle, sorted...), 0), onAll(api.WayGather, input(0, ki)), root(input(1, ki)))
	for to := 1; to <= 2; to++ {
		r.isStream(t, api.Stream{From: 1, To: to}, at("4 / 2 / 1", to, 2))
		r.isStream(t, api.Stream{From: 2, To: to}, at("5 / 3", to, 2))
	}
	of(l, onAll(api.WayGather, scanU(), partial([]int{0}, agg(api.AggSum, col(0)))), root(input(0, ki, ks), final(1, api.AggSum))).goes(t, 0, 2, 0, "3 S3 / 5 S5")
}

// P21.3: streams between nodes just as they are, and with one number else: that is another stream, or none.
func TestNoStreams(t *testing.T) {
	for _, nodes := range []int{1, 2, 5, api.MaxSites} {
		r := of(laid(some(), nodes, numbers(1, nodes), nil, counted(3)), fourWays()...)
		x, all := reckoned(r.Plan, r.Layout), streamsByRule(r.Plan, nodes)
		held := func(s api.Stream) {
			t.Helper()
			if slices.Contains(all, s) {
				r.isStream(t, s, x.stream(s))
				return
			}
			r.noStream(t, s)
		}
		for k, s := range all {
			if held(s); k%5 > 0 && nodes > 2 {
				continue
			}
			for _, other := range append(nowhere(len(r.Plan.Frags)), numbers(0, len(r.Plan.Frags))...) {
				held(api.Stream{Frag: other, From: s.From, To: s.To})
			}
			for _, other := range append(nowhere(nodes+1), numbers(0, nodes)...) {
				held(api.Stream{Frag: s.Frag, From: other, To: s.To})
				held(api.Stream{Frag: s.Frag, From: s.From, To: other})
			}
		}
		last := len(r.Plan.Frags) - 1
		r.noStream(t, api.Stream{Frag: last}) // nobody reads the last one
		r.noStream(t, api.Stream{Frag: last, To: 1})
		r.noStream(t, api.Stream{Frag: last, To: -1})
		r.noStream(t, api.Stream{Frag: 2, From: 0, To: 0})
		r.noStream(t, api.Stream{Frag: 2, From: 1, To: 1})
		r.noStream(t, api.Stream{Frag: 0, From: 1, To: 0})
		r.noStream(t, api.Stream{Frag: 3, From: 1, To: 1})
		r.noStream(t, api.Stream{Frag: 3, From: 0, To: 0})
		r.noStream(t, api.Stream{Frag: 5, From: 0, To: 1})
	}
}

// P21.3: there is none either, where all of the plan has an end, and nothing is reached; on those that there are is nothing then.
func TestStreamsOfEnds(t *testing.T) {
	faults := onAll(api.WayCast, scanU(), project(bad(0, 2)))
	r := of(ofU("1 / 3", "2", "1"), faults, onAll(api.WayGather, input(0, ki)), root(input(1, ki)))
	for to := 1; to <= 3; to++ {
		r.goes(t, 0, 1, to, "-1 / 1") // it comes to rows, though another one does not
		r.goes(t, 0, 2, to, "")
		r.goes(t, 0, 3, to, "-1")
		r.goes(t, 1, to, 0, "") // not reached
	}
	for frag := -1; frag <= 3; frag++ {
		for from := -1; from <= 4; from++ {
			for to := -1; to <= 4; to++ {
				if s := (api.Stream{Frag: frag, From: from, To: to}); !slices.Contains(streamsByRule(r.Plan, 3), s) {
					r.noStream(t, s)
				}
			}
		}
	}
}
