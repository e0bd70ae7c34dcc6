package plan_test

import (
	"slices"
	"testing"

	"bowsprit/api"
	"bowsprit/plan"
)

// chain is a tree that sends one fragment on so many times: what a projection turns round is hashed by nothing, and goes by all columns to be made distinct.
func chain(count int) []api.LNode {
	l := nodes(scanU())
	for range count {
		l = append(l, project(on(api.NNot, on(api.NIsNull, col(0)))), distinct())
	}
	return l
}

// chained are the fragments that a chain sends on, and the nodes that are under way then.
func chained(count int) (frags []api.Frag, rest []api.LNode) {
	rest = nodes(scanU())
	for k := range count {
		frags = append(frags, shuffled([]int{0}, append(rest, chain(1)[1])...))
		rest = nodes(input(k, kb), distinct())
	}
	return frags, rest
}

// P19.1: plans of MaxFrags fragments just, and of one more, whose sides end AtAll and AtOne.
func TestMaxFrags(t *testing.T) {
	one, half := group(nil, agg(api.AggAll)), partial(nil, agg(api.AggAll))
	for count := range 29 {
		frags, rest := chained(count)
		kind := map[bool]int{true: ki, false: kb}[count == 0]
		becomes(t, chain(count), slices.Concat(frags, []api.Frag{gathered(rest...), root(input(count, kind))})...)
		becomes(t, append(chain(count), one), slices.Concat(frags, []api.Frag{gathered(append(rest, half)...), root(input(count, ki), final(0, api.AggAll))})...)
		both := slices.Concat(frags, []api.Frag{gathered(append(rest, half)...), gathered(scanU()), root(input(count, ki), final(0, api.AggAll), input(count+1, ki), union())})
		if l := append(chain(count), one, scanU(), union()); len(both) <= api.MaxFrags {
			becomes(t, l, both...)
		} else {
			refuses(t, tree(l...), chapters(), api.ErrLong)
		}
	}
	refuses(t, tree(chain(29)...), chapters(), api.ErrLong)
	refuses(t, tree(append(chain(29), one)...), chapters(), api.ErrLong)
}

// P19.1: joins that send one side on, or both, at the limit.
func TestMaxFragsOfJoins(t *testing.T) {
	for count := range 29 {
		l := append(chain(count), group([]int{0}, agg(api.AggAll)))
		for _, cond := range []api.Expr{lit(yes), eq(0, 2), eq(1, 2)} {
			more := append(slices.Clone(l), scanU(), project(lit(null)), join(cond))
			if len(more) > api.MaxLogic {
				continue
			}
			s := planByRule(tree(more...), chapters())
			if want := s.ended(); len(want.Frags) > api.MaxFrags {
				refuses(t, tree(more...), chapters(), api.ErrLong)
			} else {
				isPlanned(t, tree(more...), chapters(), want)
			}
		}
	}
	var l []api.LNode // 14 joins, each of which shuffles both sides, come to 30 fragments; 15 to two more
	for k := range 15 {
		if k == 0 {
			l = nodes(scanU())
		}
		l = append(l, scanU(), join(eq(k, k+1)))
		if want := planByRule(tree(l...), chapters()).ended(); k < 14 {
			isPlanned(t, tree(l...), chapters(), want)
			if len(want.Frags) != 2*k+4 {
				t.Error(k, len(want.Frags))
			}
		} else {
			refuses(t, tree(l...), chapters(), api.ErrLong)
		}
	}
}

// P19.1: trees that come to as many fragments as can be are too long, and no call ends otherwise.
func TestFarTooLong(t *testing.T) {
	for _, end := range [][]api.LNode{{picked(0)}, {picked(0), distinct()}, {picked(0), group([]int{0}, agg(api.AggSum, col(0))), picked(1)}, {group(nil, agg(api.AggMin, col(0)), agg(api.AggAll)), picked(1)}} {
		for _, cond := range []api.Expr{eq(0, 1), lit(yes), unsafe()} {
			l := nodes(scanU())
			for len(l)+len(end)+2 <= api.MaxLogic {
				l = append(append(l, scanU(), join(cond)), end...)
			}
			if got, e := plan.Plan(tree(l...), chapters()); e == api.OK && len(got.Frags) > api.MaxFrags || e != api.OK && e != api.ErrLong {
				t.Error(got, e)
			}
		}
	}
	l := nodes(scanU())
	for len(l)+3 <= api.MaxLogic {
		l = append(l, scanU(), join(eq(0, 1)), picked(1))
	}
	l = slices.Insert(l, 1, project(lit(number(1))))
	refuses(t, tree(l...), chapters(), api.ErrLong)
}

// P19.1: fragments of MaxSteps nodes just. A tree has no more than these, and none of its fragments has more than it: one more is no tree any more.
func TestMaxSteps(t *testing.T) {
	last, sum, two := sortBy(1, api.Ord{Col: 1}), agg(api.AggSum, col(0)), []api.Agg{agg(api.AggAll), agg(api.AggAll)}
	for count := api.MaxSteps - 3; count < api.MaxSteps+2; count++ {
		begin := slices.Concat(nodes(scanT()), slices.Repeat(nodes(filter(eq(0, 1))), count-2)) // and one more is so many nodes
		sorted, summed := slices.Concat(begin, nodes(last)), slices.Concat(begin, nodes(group(nil, sum)))
		filtered, counted := slices.Concat(begin, begin[1:2]), slices.Concat(nodes(scanT(), group(nil, two...)), begin[1:])
		if count > api.MaxSteps {
			for _, l := range [][]api.LNode{sorted, summed, filtered, counted} {
				refuses(t, tree(l...), chapters(), api.ErrLogic)
			}
			continue
		}
		becomes(t, filtered, gathered(filtered...), root(input(0, ki, ki)))
		becomes(t, sorted, gathered(sorted...), root(input(0, ki, ki), last))
		becomes(t, summed, gathered(slices.Concat(begin, nodes(partial(nil, sum)))...), root(input(0, ks), final(0, api.AggSum)))
		becomes(t, counted, gathered(scanT(), partial(nil, two...)), root(slices.Concat(nodes(input(0, ki, ki), final(0, api.AggAll, api.AggAll)), begin[1:])...))
	}
	casts, under := nodes(scanT()), nodes(scanT()) // as many nodes as the tree: an input for each scan that is cast
	var frags []api.Frag
	for k := range 14 {
		casts = append(casts, scanU(), join(lit(yes)))
		under = append(under, input(k, ki), join(lit(yes)))
		frags = append(frags, cast(scanU()))
	}
	filters := slices.Repeat(nodes(filter(eq(0, 1))), api.MaxLogic-len(casts))
	kinds := slices.Repeat([]int{ki}, api.MaxWidth)
	becomes(t, slices.Concat(casts, filters), append(frags, gathered(slices.Concat(under, filters)...), root(input(14, kinds...)))...)
}

// P19.1: fragments have the numbers of the order in which they are sent on: those of the first part's, those of the second part's, the first side, the second one.
func TestOrderOfFrags(t *testing.T) {
	four := []int{ki, ki, ki, ki}
	becomes(t, nodes(scanW(), distinct(), scanW(), group([]int{2}), join(eq(1, 4))),
		shuffled(numbers(0, 3), scanW()),
		shuffled([]int{0}, scanW(), partial([]int{2})),
		shuffled([]int{1}, input(0, four...), distinct()),
		gathered(input(2, four...), input(1, ki), final(1), join(eq(1, 4))),
		root(input(3, ki, ki, ki, ki, ki)))
	becomes(t, nodes(scanU(), scanU(), join(eq(0, 1)), scanU(), scanU(), join(lit(yes)), join(eq(1, 3))),
		shuffled([]int{0}, scanU()), shuffled([]int{0}, scanU()), cast(scanU()),
		shuffled([]int{1}, input(0, ki), input(1, ki), join(eq(0, 1))),
		shuffled([]int{1}, scanU(), input(2, ki), join(lit(yes))),
		gathered(input(3, ki, ki), input(4, ki, ki), join(eq(1, 3))),
		root(input(5, four...)))
	one := nodes(scanU(), group(nil, agg(api.AggAll)))
	half := gathered(scanU(), partial(nil, agg(api.AggAll)))
	becomes(t, slices.Concat(nodes(scanU(), distinct()), one, nodes(union(), scanT(), join(lit(yes)), sortBy(3))),
		shuffled([]int{0}, scanU()), half, gathered(input(0, ki), distinct()), gathered(scanT()),
		root(input(2, ki), input(1, ki), final(0, api.AggAll), union(), input(3, ki, ki), join(lit(yes)), sortBy(3)))
	becomes(t, nodes(scanT(), scanU(), distinct(), scanW(), distinct(), join(lit(yes)), join(unsafe())),
		shuffled([]int{0}, scanU()), shuffled(numbers(0, 3), scanW()), cast(input(1, four...), distinct()),
		cast(input(0, ki), distinct(), input(2, four...), join(lit(yes))),
		gathered(scanT(), input(3, ki, ki, ki, ki, ki), join(unsafe())), root(input(4, ki, ki, ki, ki, ki, ki, ki)))
}
