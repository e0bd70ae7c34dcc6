package plan_test

import (
	"math"
	"slices"
	"testing"

	"bowsprit/api"
	"bowsprit/plan"
)

// readerByRule is the first fragment that has an input of a number; -1, if there is none.
func readerByRule(p api.Plan, frag int) int {
	for number, f := range p.Frags {
		for _, n := range f.Nodes {
			if n.Op == api.LInput && n.Table == frag {
				return number
			}
		}
	}
	return -1
}

// placesByRule are a fragment's places.
func placesByRule(f api.Frag, count int) []int {
	if f.At == api.AtOne {
		return []int{0}
	}
	return numbers(1, count)
}

// streamsByRule are all streams: of all that might be, those whose ends are places.
func streamsByRule(p api.Plan, count int) (l []api.Stream) {
	for frag, f := range p.Frags {
		reader := readerByRule(p, frag)
		for from := range api.MaxSites + 1 {
			for to := range api.MaxSites + 1 {
				if reader >= 0 && slices.Contains(placesByRule(f, count), from) && slices.Contains(placesByRule(p.Frags[reader], count), to) {
					l = append(l, api.Stream{Frag: frag, From: from, To: to})
				}
			}
		}
	}
	return l
}

// told holds that a call answers a list, and no error.
func told[T comparable](t *testing.T, p api.Plan, what string, got []T, e api.Errno, want []T) {
	t.Helper()
	if e != api.OK || !slices.Equal(got, want) {
		t.Errorf("%s of %v: %v, %v, not %v", what, p, got, e, want)
	}
}

// reads, runs, flows hold what Reader, Places and Streams say.
func reads(t *testing.T, p api.Plan, frag, want int) {
	t.Helper()
	if got, e := plan.Reader(p, frag); got != want || e != api.OK {
		t.Errorf("Reader of %v of %v: %v, %v, not %v", frag, p, got, e, want)
	}
}

func runs(t *testing.T, p api.Plan, frag, count int, want ...int) {
	t.Helper()
	got, e := plan.Places(p, frag, count)
	told(t, p, "Places", got, e, want)
}

func flows(t *testing.T, p api.Plan, count int, want ...api.Stream) {
	t.Helper()
	got, e := plan.Streams(p, count)
	told(t, p, "Streams", got, e, want)
}

func comesInto(t *testing.T, p api.Plan, frag, count, node int, want ...api.Stream) {
	t.Helper()
	got, e := plan.Into(p, frag, count, node)
	told(t, p, "Into", got, e, want)
}

func goesOutof(t *testing.T, p api.Plan, frag, count, node int, want ...api.Stream) {
	t.Helper()
	got, e := plan.Outof(p, frag, count, node)
	told(t, p, "Outof", got, e, want)
}

// someNodes are numbers of nodes, and of what is none, of so many.
func someNodes(count int) []int {
	return append(numbers(-1, api.MaxSites+1), nowhere(count+1)...)
}

// isTold holds all that is said of a plan, of each count of nodes, against what is reckoned of it.
func isTold(t *testing.T, p api.Plan) (streams int) {
	t.Helper()
	for count := 1; count <= api.MaxSites; count++ {
		all := streamsByRule(p, count)
		flows(t, p, count, all...)
		streams += len(all)
		for frag, f := range p.Frags {
			reads(t, p, frag, readerByRule(p, frag))
			runs(t, p, frag, count, placesByRule(f, count)...)
			for _, node := range someNodes(count) {
				comesInto(t, p, frag, count, node, slices.DeleteFunc(slices.Clone(all), func(s api.Stream) bool { return readerByRule(p, s.Frag) != frag || s.To != node })...)
				goesOutof(t, p, frag, count, node, slices.DeleteFunc(slices.Clone(all), func(s api.Stream) bool { return s.Frag != frag || s.From != node })...)
			}
		}
	}
	return streams
}

// isAstray holds that the calls refuse a plan: all that are handed a count of nodes because of that, all that are handed a fragment because of that one, or all because of both, as with a plan that is too long.
func isAstray(t *testing.T, p api.Plan, frag, count int, byCount, byFrag bool) {
	t.Helper()
	no := func(what string, isNone bool, e api.Errno, refused bool) {
		t.Helper()
		if refused != (e == api.ErrArg) || refused && !isNone || !refused && e != api.OK {
			t.Errorf("%s of %v of %v, %v: %v", what, frag, p, count, e)
		}
	}
	reader, e := plan.Reader(p, frag)
	no("Reader", reader == 0, e, byFrag)
	places, e := plan.Places(p, frag, count)
	no("Places", len(places) == 0, e, true)
	streams, e := plan.Streams(p, count)
	no("Streams", len(streams) == 0, e, byCount)
	for node := -1; node < 10; node++ {
		streams, e = plan.Into(p, frag, count, node)
		no("Into", len(streams) == 0, e, true)
		streams, e = plan.Outof(p, frag, count, node)
		no("Outof", len(streams) == 0, e, true)
	}
}

// made are plans that Plan makes: of one input each, of several, of each Way.
func made() (l []api.Plan) {
	for _, s := range sides() {
		l = append(l, s.ended())
	}
	for _, n := range [][]api.LNode{
		{scanT(), scanU(), join(eq(1, 2)), group([]int{0}, agg(api.AggAll)), sortBy(1)},
		{scanW(), distinct(), scanW(), group([]int{2}), join(eq(1, 4)), scanU(), group(nil, agg(api.AggAll)), join(lit(yes))},
		{scanT(), scanW(), scanU(), join(lit(yes)), leftJoin(unsafe()), distinct()}, chain(28),
	} {
		p, e := plan.Plan(tree(n...), chapters())
		if e != api.OK {
			panic(e)
		}
		l = append(l, p)
	}
	return l
}

// P19.2, P19.3: of plans that Plan makes: the streams, in their order, of each Way.
func TestStreamsOfExamples(t *testing.T) {
	s := func(frag, from, to int) api.Stream { return api.Stream{Frag: frag, From: from, To: to} }
	p := planOf(shuffled([]int{0}, scanU()), gathered(scanT(), input(0, ki), join(eq(0, 2))), root(input(1, ki, ki, ki)))
	isPlanned(t, tree(scanT(), scanU(), join(eq(0, 2))), chapters(), p)
	for frag, reader := range []int{1, 2, -1} {
		reads(t, p, frag, reader)
	}
	runs(t, p, 0, 3, 1, 2, 3)
	runs(t, p, 1, 1, 1)
	runs(t, p, 2, 3, 0)
	flows(t, p, 1, s(0, 1, 1), s(1, 1, 0))
	flows(t, p, 2, s(0, 1, 1), s(0, 1, 2), s(0, 2, 1), s(0, 2, 2), s(1, 1, 0), s(1, 2, 0))
	comesInto(t, p, 0, 2, 1)
	comesInto(t, p, 1, 2, 1, s(0, 1, 1), s(0, 2, 1))
	comesInto(t, p, 1, 2, 2, s(0, 1, 2), s(0, 2, 2))
	comesInto(t, p, 1, 2, 0)
	comesInto(t, p, 1, 2, 3)
	comesInto(t, p, 2, 2, 0, s(1, 1, 0), s(1, 2, 0))
	comesInto(t, p, 2, 2, 1)
	goesOutof(t, p, 0, 2, 1, s(0, 1, 1), s(0, 1, 2))
	goesOutof(t, p, 0, 2, 2, s(0, 2, 1), s(0, 2, 2))
	goesOutof(t, p, 0, 2, 0)
	goesOutof(t, p, 1, 2, 2, s(1, 2, 0))
	goesOutof(t, p, 1, 2, 3)
	goesOutof(t, p, 2, 2, 0)
	cast := planOf(cast(scanU()), cast(scanU()), gathered(scanT(), input(1, ki), join(lit(yes)), input(0, ki), join(lit(yes))), root(input(2, ki, ki, ki, ki)))
	comesInto(t, cast, 2, 2, 2, s(0, 1, 2), s(0, 2, 2), s(1, 1, 2), s(1, 2, 2)) // by the fragments' numbers, not by the inputs' order
	for _, p := range append(made(), cast) {
		if isTold(t, p) == 0 {
			t.Error(p)
		}
	}
}

// whatever are plans that may not be: fragments that nobody reads, that several read, that read themselves and later ones, and none at all; whose At and Way are none.
func whatever() (l []api.Plan) {
	in := func(frags ...int) (l []api.LNode) {
		for _, f := range frags {
			l = append(l, input(f, ki))
		}
		return l
	}
	reader := func(at, way int, frags ...int) api.Frag { return api.Frag{Nodes: in(frags...), At: at, Way: way} }
	for _, at := range []int{api.AtAll, api.AtOne, 0, 3, -1, math.MaxInt, 1<<32 + api.AtOne} {
		for _, way := range []int{0, api.WayShuffle, api.WayCast, api.WayGather, api.WayRoot, -7} {
			l = append(l,
				planOf(reader(at, way)), planOf(reader(at, way, 0)), planOf(reader(at, way, 0, 0, 7, -1)),
				planOf(reader(at, way), reader(api.AtOne, way), reader(at, way)),
				planOf(reader(at, way, 2), reader(api.AtAll, way, 2, 1), reader(api.AtOne, way, 0, 1, 0)),
				planOf(reader(api.AtOne, way, 3, 1), reader(at, way, 0, 3), reader(api.AtAll, way, 1), reader(at, way, 0, 1, 2)),
			)
		}
	}
	long := api.Plan{}
	for k := range api.MaxFrags {
		long.Frags = append(long.Frags, reader(1+k%3, k%5, (k*7)%api.MaxFrags, k-1))
	}
	scans := planOf(gathered(scan(1, ki)), root(scan(0, ki), input(1<<32, ki), union())) // a scan's Table is a table
	return append(l, long, api.Plan{Frags: make([]api.Frag, api.MaxFrags)}, planOf(api.Frag{}), scans, planOf(api.Frag{Nodes: append(make([]api.LNode, 1<<12), in(0)...)}))
}

// P19.2, P19.3: of whatever plan.
func TestStreamsOfWhatever(t *testing.T) {
	s := func(frag, from, to int) api.Stream { return api.Stream{Frag: frag, From: from, To: to} }
	p := planOf(api.Frag{At: 9, Way: 9}, api.Frag{Nodes: nodes(input(1, ki), input(0, ki), input(0, ki)), At: api.AtOne}, root(input(0, ki), input(7, ki)))
	reads(t, p, 0, 1)
	reads(t, p, 1, 1)
	reads(t, p, 2, -1)
	runs(t, p, 0, 2, 1, 2)
	flows(t, p, 2, s(0, 1, 0), s(0, 2, 0), s(1, 0, 0)) // once, however many read it: the first one does
	comesInto(t, p, 1, 2, 0, s(0, 1, 0), s(0, 2, 0), s(1, 0, 0))
	comesInto(t, p, 2, 2, 0)
	goesOutof(t, p, 1, 2, 0, s(1, 0, 0))
	back := planOf(gathered(input(1, ki)), root(input(0, ki))) // the last one is read, by an earlier one
	flows(t, back, 2, s(0, 1, 0), s(0, 2, 0), s(1, 0, 1), s(1, 0, 2))
	comesInto(t, back, 0, 2, 2, s(1, 0, 2))
	flows(t, planOf(api.Frag{}, api.Frag{}), 8)
	streams := 0
	for _, p := range whatever() {
		streams += isTold(t, p)
	}
	if streams < 1000 {
		t.Error(streams)
	}
}

// P19.2, P19.3: ErrArg of plans of no fragments, and of more than MaxFrags, whatever else is asked.
func TestNoPlans(t *testing.T) {
	more := api.Plan{Frags: make([]api.Frag, api.MaxFrags+1)}
	for k := range more.Frags {
		more.Frags[k] = gathered(input(k, ki))
	}
	for _, p := range []api.Plan{{}, {Frags: []api.Frag{}}, more, {Frags: make([]api.Frag, 1000)}} {
		for frag := -1; frag < api.MaxFrags+2; frag++ {
			for _, count := range []int{-1, 0, 1, 2, api.MaxSites, api.MaxSites + 1} {
				isAstray(t, p, frag, count, true, true)
			}
		}
	}
}

// P19.2, P19.3: ErrArg of a fragment that there is not, and of counts of nodes that may not be.
func TestNoFragsNoNodes(t *testing.T) {
	for _, p := range append(made(), whatever()[:12]...) {
		for _, frag := range nowhere(len(p.Frags)) {
			for _, count := range []int{1, 2, api.MaxSites} {
				isAstray(t, p, frag, count, false, true)
			}
			isAstray(t, p, frag, 0, true, true)
		}
		for frag := range p.Frags {
			for _, count := range []int{0, -1, api.MaxSites + 1, api.MaxSites + 2, math.MaxInt, math.MinInt, 1 << 32, 1<<32 + 1} {
				isAstray(t, p, frag, count, true, false)
			}
		}
	}
	last := api.Plan{Frags: make([]api.Frag, api.MaxFrags)}
	runs(t, last, api.MaxFrags-1, api.MaxSites, numbers(1, api.MaxSites)...)
	isAstray(t, last, api.MaxFrags, api.MaxSites, false, true)
}
