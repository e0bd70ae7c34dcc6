package plan_test

import (
	"slices"
	"testing"

	"bowsprit/api"
)

// P19.1: the chapter's examples.
func TestExamples(t *testing.T) {
	two := []int{ki, ki}
	becomes(t, nodes(scanT()), gathered(scanT()), root(input(0, two...)))
	becomes(t, nodes(scanT(), scanU(), join(eq(0, 2))),
		shuffled([]int{0}, scanU()), gathered(scanT(), input(0, ki), join(eq(0, 2))), root(input(1, ki, ki, ki)))
	becomes(t, nodes(scanU(), group(nil, agg(api.AggAll))),
		gathered(scanU(), partial(nil, agg(api.AggAll))), root(input(0, ki), final(0, api.AggAll)))
	becomes(t, nodes(scanT(), distinct()), gathered(scanT(), distinct()), root(input(0, two...)))
}

// sides are one AtAll that is hashed by one column, by two, by several that were shuffled, by what a join has; AtAll that is not; AtOne. Each has two columns of VInt or more.
func sides() []side {
	c := chapters()
	grouped := overOne(group(nil, agg(api.AggAll), agg(api.AggSum, col(0))), scanned(scanW(), c))
	return []side{
		scanned(scanT(), c),
		scanned(scanV(), c),
		overOne(distinct(), scanned(scanW(), c)),
		overTwo(join(eq(0, 2)), scanned(scanT(), c), scanned(scanU(), c)),
		scanned(scanW(), c),
		overTwo(join(lit(yes)), scanned(scanU(), c), scanned(scanU(), c)),
		grouped,
		overTwo(union(), grouped, grouped),
	}
}

// The kinds of sides as their cols and at say them.
func isHashed(s side) bool {
	return len(s.cols) > 0
}

func isAnyhow(s side) bool {
	return s.at == api.AtAll && len(s.cols) == 0
}

func isOne(s side) bool {
	return s.at == api.AtOne
}

// P19.1: what the sides are with which all other tests begin, written out.
func TestSides(t *testing.T) {
	l := sides()
	four := []int{ki, ki, ki, ki}
	sum := []api.Agg{agg(api.AggAll), agg(api.AggSum, col(0))}
	want := [][]api.Frag{
		{gathered(scanT()), root(input(0, ki, ki))},
		{gathered(scanV()), root(input(0, four...))},
		{shuffled([]int{0, 1, 2, 3}, scanW()), gathered(input(0, four...), distinct()), root(input(1, four...))},
		{shuffled([]int{0}, scanU()), gathered(scanT(), input(0, ki), join(eq(0, 2))), root(input(1, ki, ki, ki))},
		{gathered(scanW()), root(input(0, four...))},
		{cast(scanU()), gathered(scanU(), input(0, ki), join(lit(yes))), root(input(1, ki, ki))},
		{gathered(scanW(), partial(nil, sum...)), root(input(0, ki, ks), final(0, api.AggAll, api.AggSum))},
		{gathered(scanW(), partial(nil, sum...)), gathered(scanW(), partial(nil, sum...)), root(input(0, ki, ks), final(0, api.AggAll, api.AggSum), input(1, ki, ks), final(0, api.AggAll, api.AggSum), union())},
	}
	cols := [][]int{{0}, {1, 3}, {0, 1, 2, 3}, {0}, nil, nil, nil, nil}
	for k, s := range l {
		becomes(t, s.tree, want[k]...)
		comes(t, s)
		if !slices.Equal(s.cols, cols[k]) || isOne(s) != (k > 5) {
			t.Error(k, s.cols, s.at)
		}
	}
}

// P19.1: a scan begins a side AtAll, hashed by whichever Keys the table has, whichever table it is; in which order is told by what another side is shuffled by.
func TestScans(t *testing.T) {
	columns, four := "a int b bool c text d int", []int{ki, kb, kt, ki}
	cond := all(eq(3, 7), eq(2, 6), eq(1, 5), eq(0, 4))
	for _, keys := range [][]int{nil, {}, {0}, {1}, {2}, {3}, {0, 1}, {0, 3}, {1, 2}, {0, 1, 2}, {1, 2, 3}, {0, 1, 2, 3}} {
		for table := range api.MaxTables {
			c := chapters()
			other := (table + 1) % api.MaxTables
			c.Tables[table], c.Tables[other] = tab("x", columns, keys...), tab("y", columns)
			n, m, in := scan(table, four...), scan(other, four...), input(0, four...)
			isPlanned(t, tree(n), c, planOf(gathered(n), root(in)))
			both := root(input(1, slices.Concat(four, four)...))
			if len(keys) > 0 {
				isPlanned(t, tree(n, distinct()), c, planOf(gathered(n, distinct()), root(in)))
				isPlanned(t, tree(n, m, join(cond)), c, planOf(shuffled(keys, m), gathered(n, in, join(cond)), both))
				isPlanned(t, tree(m, n, join(cond)), c, planOf(shuffled(keys, m), gathered(in, n, join(cond)), both))
				continue
			}
			isPlanned(t, tree(n, distinct()), c, planOf(shuffled(numbers(0, 3), n), gathered(in, distinct()), root(input(1, four...))))
			turned, last := []int{3, 2, 1, 0}, root(input(2, slices.Concat(four, four)...))
			isPlanned(t, tree(n, m, join(cond)), c, planOf(shuffled(turned, n), shuffled(turned, m), gathered(in, input(1, four...), join(cond)), last))
		}
	}
}

// P19.1: a filter stands over its side, hashed as it is.
func TestFilters(t *testing.T) {
	for _, s := range sides() {
		for _, cond := range []api.Expr{lit(yes), lit(null), eq(0, 1), unsafe()} {
			comes(t, s.under(filter(cond), s.cols...))
			comes(t, s.under(filter(cond), s.cols...).under(filter(eq(1, 0)), s.cols...))
		}
	}
	becomes(t, nodes(scanT(), filter(unsafe())), gathered(scanT(), filter(unsafe())), root(input(0, ki, ki)))
	becomes(t, nodes(scanT(), filter(unsafe()), group([]int{0})), gathered(scanT(), filter(unsafe()), group([]int{0})), root(input(0, ki)))
	becomes(t, nodes(scanU(), group(nil, agg(api.AggAll)), filter(unsafe())), gathered(scanU(), partial(nil, agg(api.AggAll))), root(input(0, ki), final(0, api.AggAll), filter(unsafe())))
}

// P19.1: projections that keep all columns by which a side is hashed, some, none, one of them twice, turned about, or more than columns.
func TestProjects(t *testing.T) {
	one := scanned(scanT(), chapters())
	comes(t, one.under(picked(0), 0))
	comes(t, one.under(picked(1)))
	comes(t, one.under(picked(1, 0), 1))
	comes(t, one.under(picked(0, 0), 0))
	comes(t, one.under(picked(1, 1, 0, 0, 1), 2))
	comes(t, one.under(project(on(api.NAdd, col(0), num(0)), col(1))))
	comes(t, one.under(project(on(api.NAdd, col(0), num(0)), num(0), col(0)), 2))
	comes(t, one.under(project(on(api.NNeg, col(0)))))
	comes(t, one.under(project(num(0), num(1)))) // a literal is no column, whatever it is
	comes(t, one.under(project(lit(null))))
	two := scanned(scanV(), chapters()) // by 1 and 3
	comes(t, two.under(picked(1, 3), 0, 1))
	comes(t, two.under(picked(3, 1), 1, 0))
	comes(t, two.under(picked(0, 1, 2, 3), 1, 3))
	comes(t, two.under(picked(3, 2, 1, 0), 2, 0))
	comes(t, two.under(picked(3, 3, 1, 1), 2, 0))
	comes(t, two.under(picked(1)))
	comes(t, two.under(picked(3, 2, 0)))
	comes(t, two.under(picked(0, 2)))
	comes(t, two.under(picked(1, 1)))
	comes(t, two.under(project(col(1), on(api.NSub, col(3), num(0)))))
	comes(t, two.under(project(on(api.NSub, col(3), num(0)), col(1), num(3), col(3)), 1, 3))
	var wide []int
	for k := range api.MaxWidth {
		wide = append(wide, k%3)
	}
	wide[15] = 3
	comes(t, two.under(picked(wide...), 1, 15))
	comes(t, two.under(picked(with(wide, 15, 0)...)))
	again := two.under(picked(3, 1), 1, 0).under(picked(1, 0, 1), 0, 1)
	comes(t, again)
	comes(t, again.under(picked(2)))
	comes(t, again.under(picked(2, 1)))
	comes(t, again.under(picked(1, 2, 0), 2, 0))
	for _, s := range sides() {
		if !isHashed(s) {
			comes(t, s.under(picked(0, 1)))
			comes(t, s.under(project(col(1), on(api.NAdd, col(0), num(1)))))
		}
	}
	becomes(t, nodes(scanT(), picked(1, 0), distinct()), gathered(scanT(), picked(1, 0), distinct()), root(input(0, ki, ki)))
	becomes(t, nodes(scanT(), picked(1), distinct()), shuffled([]int{0}, scanT(), picked(1)), gathered(input(0, ki), distinct()), root(input(1, ki)))
	becomes(t, nodes(scanT(), project(on(api.NNeg, col(0)), lit(null), lit(text("a"))), distinct()),
		shuffled([]int{0, 1, 2}, scanT(), project(on(api.NNeg, col(0)), lit(null), lit(text("a")))), gathered(input(0, ki, kn, kt), distinct()), root(input(1, ki, kn, kt)))
}

// P19.1: a column's hash of a side that was shuffled twice by one column: its first place.
func TestProjectOfColsTwice(t *testing.T) {
	s := overOne(group([]int{0, 1, 0}), scanned(scanW(), chapters()))
	comes(t, s)
	comes(t, s.under(picked(2, 1, 0), 2, 1, 0))
	comes(t, s.under(picked(0, 1)))
	comes(t, s.under(picked(2, 0, 2, 1), 1, 3, 0))
	joined := overTwo(join(eqs(0, 4, 0, 5)), scanned(scanW(), chapters()), scanned(scanW(), chapters()))
	if !slices.Equal(joined.cols, []int{0, 0}) {
		t.Error(joined)
	}
	comes(t, joined)
	comes(t, joined.under(picked(3, 0), 1, 1))
	comes(t, joined.under(picked(0, 3, 0), 0, 0))
	comes(t, joined.under(picked(3)))
}

// P19.1: distincts over each kind of side; what was shuffled for one is hashed by all columns.
func TestDistincts(t *testing.T) {
	for _, s := range sides() {
		if !isAnyhow(s) {
			comes(t, s.under(distinct(), s.cols...))
			comes(t, s.under(distinct(), s.cols...).under(distinct(), s.cols...))
			continue
		}
		cols := numbers(0, len(s.kinds())-1)
		comes(t, s.sent(api.WayShuffle, cols...).under(distinct(), cols...))
		comes(t, s.sent(api.WayShuffle, cols...).under(distinct(), cols...).under(distinct(), cols...))
	}
	var wide []int
	for k := range api.MaxWidth {
		wide = append(wide, k%4)
	}
	kinds := slices.Repeat([]int{ki}, api.MaxWidth)
	becomes(t, nodes(scanW(), picked(wide...), distinct()), shuffled(numbers(0, 15), scanW(), picked(wide...)), gathered(input(0, kinds...), distinct()), root(input(1, kinds...)))
	becomes(t, nodes(scanU(), group(nil, agg(api.AggAll)), distinct()), gathered(scanU(), partial(nil, agg(api.AggAll))), root(input(0, ki), final(0, api.AggAll), distinct()))
}

// P19.1: sorts over each kind of side, with an Order, without, with each Limit.
func TestSorts(t *testing.T) {
	for _, s := range sides() {
		for _, order := range [][]api.Ord{nil, {}, {{Col: 1, Desc: true}}, {{Col: 1}, {Col: 0, Desc: true}, {Col: 1}}} {
			for _, limit := range []int{-1, 0, 1, 7, api.MaxNumber} {
				n := sortBy(limit, order...)
				if isOne(s) {
					comes(t, s.under(n))
					continue
				}
				in := s.onto(n).sent(api.WayGather)
				comes(t, in.under(n))
			}
		}
	}
	n := sortBy(2, api.Ord{Col: 1, Desc: true})
	becomes(t, nodes(scanT(), n), gathered(scanT(), n), root(input(0, ki, ki), n))
	becomes(t, nodes(scanU(), n1()), gathered(scanU(), n1()), root(input(0, ki), n1()))
	becomes(t, nodes(scanU(), group(nil, agg(api.AggAll)), n1()), gathered(scanU(), partial(nil, agg(api.AggAll))), root(input(0, ki), final(0, api.AggAll), n1()))
}

// n1 is a sort that does not cut.
func n1() api.LNode {
	return sortBy(-1)
}

// P19.1: unions of both hashed alike, otherwise, one of them AtOne, both.
func TestUnions(t *testing.T) {
	seen := map[bool]int{}
	for _, a := range sides() {
		for _, b := range sides() {
			for _, width := range []int{1, 2} {
				l, r := overOne(picked(numbers(0, width-1)...), a), overOne(picked(numbers(0, width-1)...), b)
				x, y := beside(l, r)
				var cols []int
				switch {
				case isOne(x) && !isOne(y):
					x, y = sentBeside(x, y, api.WayGather)
				case isOne(y) && !isOne(x):
					x = x.sent(api.WayGather)
				case slices.Equal(x.cols, y.cols):
					cols = x.cols
				}
				seen[len(cols) > 0]++
				comes(t, both(union(), x, y, cols...))
			}
		}
	}
	if seen[true] < 4 || seen[false] < 4 {
		t.Error(seen)
	}
	one := scanned(scanT(), chapters())
	comes(t, both(union(), one, one, 0))
	comes(t, both(union(), one, one.under(picked(1, 0), 1)))
	comes(t, both(union(), one.under(picked(1, 0), 1), one.under(picked(1, 0), 1), 1))
	comes(t, both(union(), one, one.under(picked(0, 0), 0), 0))
	two := scanned(scanV(), chapters())
	comes(t, both(union(), two, two, 1, 3))
	comes(t, both(union(), two, two.under(picked(0, 3, 2, 1), 3, 1))) // the same columns in another order
	comes(t, both(union(), two.under(picked(0, 1), nil...), one.under(picked(0, 1), 0)))
	comes(t, both(union(), two, one.under(picked(0, 0, 0, 0), 0)))
	becomes(t, nodes(scanT(), scanT(), union(), distinct()), gathered(scanT(), scanT(), union(), distinct()), root(input(0, ki, ki)))
	becomes(t, nodes(scanU(), scanU(), union()), gathered(scanU(), scanU(), union()), root(input(0, ki)))
	all1 := agg(api.AggAll)
	becomes(t, nodes(scanU(), group(nil, all1), scanU(), union()),
		gathered(scanU(), partial(nil, all1)), gathered(scanU()), root(input(0, ki), final(0, api.AggAll), input(1, ki), union()))
	becomes(t, nodes(scanU(), scanU(), group(nil, all1), union()),
		gathered(scanU(), partial(nil, all1)), gathered(scanU()), root(input(1, ki), input(0, ki), final(0, api.AggAll), union()))
	becomes(t, nodes(scanT(), project(lit(null), col(1)), scanT(), union()),
		gathered(scanT(), project(lit(null), col(1)), scanT(), union()), root(input(0, ki, ki)))
	becomes(t, nodes(scanT(), scanT(), project(col(0), lit(null)), union()),
		gathered(scanT(), scanT(), project(col(0), lit(null)), union()), root(input(0, ki, ki)))
}
