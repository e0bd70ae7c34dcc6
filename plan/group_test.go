package plan_test

import (
	"slices"
	"testing"

	"bowsprit/api"
)

// whole is a side under a group that stands over it as it is, hashed by columns.
func whole(s side, keys []int, aggs []api.Agg, cols ...int) side {
	return s.under(group(keys, aggs...), cols...)
}

// halved is a side under a group that is two halves: its rows go on by places, or, if there are none, to one node.
func halved(s side, keys []int, aggs []api.Agg, places ...int) side {
	end := final(len(keys))
	for _, g := range aggs {
		end.Aggs = append(end.Aggs, api.Agg{Tag: g.Tag})
	}
	s = s.onto(partial(keys, aggs...))
	if len(places) > 0 {
		s = s.sent(api.WayShuffle, places...)
	} else {
		s = s.sent(api.WayGather)
	}
	return s.onto(end, places...).told(group(keys, aggs...))
}

// someAggs are no aggregates, one, one of each Tag, as many as there may be; over two columns of VInt.
func someAggs() [][]api.Agg {
	return [][]api.Agg{
		nil, {agg(api.AggAll)}, {agg(api.AggSum, col(1)), agg(api.AggSum, lit(null)), agg(api.AggMin, lit(null))}, eachAgg(),
		slices.Concat(eachAgg(), eachAgg(), []api.Agg{agg(api.AggMin, num(1)), agg(api.AggCount, lit(null))}),
	}
}

// P19.1: AtAll, by Keys that have all columns by which the side is hashed, in whatever order: as it is, hashed by their first places.
func TestGroupsOfHashed(t *testing.T) {
	one, two := scanned(scanT(), chapters()), scanned(scanV(), chapters())
	for _, aggs := range someAggs() {
		comes(t, whole(one, []int{0}, aggs, 0))
		comes(t, whole(one, []int{0, 1}, aggs, 0))
		comes(t, whole(one, []int{1, 0}, aggs, 1))
		comes(t, whole(one, []int{0, 0}, aggs, 0))
		comes(t, whole(one, []int{1, 0, 0}, aggs, 1))
		comes(t, whole(one, []int{1, 1, 0}, aggs, 2))
		comes(t, whole(two, []int{1, 3}, aggs, 0, 1))
		comes(t, whole(two, []int{3, 1}, aggs, 1, 0))
		comes(t, whole(two, []int{0, 1, 3}, aggs, 1, 2))
		comes(t, whole(two, []int{3, 2, 1}, aggs, 2, 0))
		comes(t, whole(two, []int{1, 1, 3}, aggs, 0, 2))
		comes(t, whole(two, []int{3, 1, 3}, aggs, 1, 0))
	}
	again := whole(two, []int{3, 2, 1}, []api.Agg{agg(api.AggAll)}, 2, 0)
	comes(t, whole(again, []int{0, 2}, nil, 1, 0))
	comes(t, halved(again, []int{0, 1}, nil, 0, 1))
	becomes(t, nodes(scanT(), group([]int{1, 0}, agg(api.AggSum, col(1)))), gathered(scanT(), group([]int{1, 0}, agg(api.AggSum, col(1)))), root(input(0, ki, ki, ki)))
}

// P19.1: AtAll, by Keys that have all of these columns but one, none of them, no Keys: in halves, hashed by the places of all Keys, or AtOne.
func TestGroupsOfHashedByOthers(t *testing.T) {
	one, two := scanned(scanT(), chapters()), scanned(scanV(), chapters())
	many := overOne(distinct(), scanned(scanW(), chapters())) // by all four columns; Keys are three at most
	for k, aggs := range someAggs() {
		comes(t, halved(one, []int{1}, aggs, 0))
		comes(t, halved(one, []int{1, 1}, aggs, 0, 1))
		comes(t, halved(one, []int{1, 1, 1}, aggs, 0, 1, 2))
		for _, keys := range [][]int{{1}, {3}, {0}, {0, 2}, {1, 1}, {3, 3, 3}, {1, 0, 2}, {2, 0, 3}, {0, 0, 3}} {
			comes(t, halved(two, keys, aggs, numbers(0, len(keys)-1)...))
			comes(t, halved(many, keys, aggs, numbers(0, len(keys)-1)...))
		}
		if k > 0 {
			comes(t, halved(one, nil, aggs))
			comes(t, halved(two, nil, aggs))
			comes(t, halved(many, nil, aggs))
		}
	}
	becomes(t, nodes(scanT(), group([]int{1})), shuffled([]int{0}, scanT(), partial([]int{1})), gathered(input(0, ki), final(1)), root(input(1, ki)))
}

// P19.1: AtAll, not hashed; a Key twice is two places.
func TestGroupsOfAnyhow(t *testing.T) {
	for _, s := range sides() {
		if !isAnyhow(s) {
			continue
		}
		for k, aggs := range someAggs() {
			for _, keys := range [][]int{{0}, {1}, {0, 1}, {1, 0}, {1, 1}, {0, 1, 0}} {
				comes(t, halved(s, keys, aggs, numbers(0, len(keys)-1)...))
			}
			if k > 0 {
				comes(t, halved(s, nil, aggs))
			}
		}
	}
	sum := []api.Agg{agg(api.AggMax, col(0)), agg(api.AggSum, col(0))}
	becomes(t, nodes(scanU(), group([]int{0, 0}, sum...)),
		shuffled([]int{0, 1}, scanU(), partial([]int{0, 0}, sum...)),
		gathered(input(0, ki, ki, ki, ks), final(2, api.AggMax, api.AggSum)),
		root(input(1, ki, ki, ki, ki)))
	becomes(t, nodes(scanU(), project(lit(text("a")), lit(yes), lit(null)), group([]int{2, 1, 0}, agg(api.AggMin, col(0)), agg(api.AggMax, col(1)), agg(api.AggSum, col(2)), agg(api.AggMin, col(2)), agg(api.AggCount, col(0)))),
		shuffled([]int{0, 1, 2}, scanU(), project(lit(text("a")), lit(yes), lit(null)), partial([]int{2, 1, 0}, agg(api.AggMin, col(0)), agg(api.AggMax, col(1)), agg(api.AggSum, col(2)), agg(api.AggMin, col(2)), agg(api.AggCount, col(0)))),
		gathered(input(0, kn, kb, kt, kt, kb, ks, kn, ki), final(3, api.AggMin, api.AggMax, api.AggSum, api.AggMin, api.AggCount)),
		root(input(1, kn, kb, kt, kt, kb, ki, kn, ki)))
}

// P19.1: AtOne a group stands over its side, whatever its Keys.
func TestGroupsAtOne(t *testing.T) {
	for _, s := range sides() {
		if !isOne(s) {
			continue
		}
		for k, aggs := range someAggs() {
			for _, keys := range [][]int{{0}, {1}, {1, 0}, {1, 1}, {0, 1, 0}} {
				comes(t, whole(s, keys, aggs))
			}
			if k > 0 {
				comes(t, whole(s, nil, aggs))
			}
		}
	}
	becomes(t, nodes(scanU(), group(nil, agg(api.AggAll)), group([]int{0})),
		gathered(scanU(), partial(nil, agg(api.AggAll))), root(input(0, ki), final(0, api.AggAll), group([]int{0})))
}

// P19.1: what a group in halves is hashed by a further one takes as it is.
func TestGroupOverHalves(t *testing.T) {
	s := halved(scanned(scanW(), chapters()), []int{2, 1}, []api.Agg{agg(api.AggAll)}, 0, 1)
	comes(t, whole(s, []int{1, 0}, nil, 1, 0))
	comes(t, whole(s, []int{2, 1, 0}, nil, 2, 1))
	comes(t, halved(s, []int{0, 2}, nil, 0, 1))
	comes(t, halved(s, []int{1}, []api.Agg{agg(api.AggMax, col(2))}, 0))
	comes(t, halved(s, nil, []api.Agg{agg(api.AggMax, col(2))}))
	comes(t, s.under(distinct(), 0, 1))
	comes(t, s.under(filter(eq(0, 1)), 0, 1).under(picked(1, 2, 0), 2, 0))
}
