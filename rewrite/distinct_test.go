package rewrite_test

import (
	"slices"
	"testing"

	"bowsprit/api"
)

// P16.1, P16.2: rule 5: two, three of them are the lowest one.
func TestDistinctOverDistinct(t *testing.T) {
	for _, l := range each() {
		if l.Nodes[len(l.Nodes)-1].Op == api.LDistinct {
			continue
		}
		one := up(l, distinct())
		stays(t, one)
		tops(t, up(l, distinct(), distinct()), 5, one)
		becomes(t, up(l, distinct(), distinct()), one)
		tops(t, up(l, distinct(), distinct(), distinct()), 5, up(l, distinct(), distinct()))
		becomes(t, up(l, distinct(), distinct(), distinct()), one)
		becomes(t, up(l, distinct(), filter(lit(yes)), distinct(), sortBy(3)), up(one, sortBy(3)))
		becomes(t, tree(union(), up(l, distinct(), distinct()), up(l, distinct(), distinct())), tree(union(), one, one))
		stays(t, up(one, filter(bad(0, 1)), distinct()))
		stays(t, up(one, group([]int{0}), distinct()))
	}
}

// overGroup are a group, a filter over it, and of these what distinct is told of: by each key an item as itself.
func overGroup(keys []int, aggs ...api.Agg) []api.Logic {
	g := up(table(0, api.VInt, api.VInt, api.VText), group(keys, aggs...))
	return []api.Logic{g, up(g, filter(is(0, 1))), up(g, filter(bad(0, 1))), up(g, filter(lit(null)))}
}

// P16.1, P16.2: rule 6: over the group, and over a filter over it, if each key is an item as itself, in whatever order, between whatever others.
func TestDistinctOverGroup(t *testing.T) {
	for _, l := range overGroup([]int{1, 0, 1}, agg(api.AggAll), agg(api.AggMin, col(1))) {
		for _, items := range [][]api.Expr{cols(0, 1, 2), cols(2, 1, 0), cols(1, 0, 2, 3), cols(4, 2, 4, 0, 1), cols(0, 0, 1, 1, 2, 2), {num(1), col(2), bad(3, 1), col(1), on(api.NNeg, col(0)), col(0)}} {
			made := up(l, project(items...))
			tops(t, up(made, distinct()), 6, made)
			becomes(t, up(made, distinct()), made)
			becomes(t, up(made, distinct(), sortBy(2)), up(made, sortBy(2)))
			becomes(t, up(made, distinct(), distinct()), made)
			becomes(t, tree(union(), up(made, distinct()), made), tree(union(), made, made))
		}
		for _, items := range [][]api.Expr{cols(0, 1), cols(0, 2), cols(1, 2), cols(0, 1, 3, 4), cols(0), cols(3), {num(1)}, {col(0), col(1), on(api.NNeg, col(2))}, {col(0), col(1), num(2)}, {col(0), col(2), eq(1, 1)}, {col(0), col(2), on(api.NAdd, col(1), num(0))}, cols(0, 1, 1, 0, 3), {col(1), col(2), lit(null)}} {
			from := up(l, project(items...), distinct())
			isNot(t, from)
			stays(t, from)
		}
	}
}

// P16.1, P16.2: rule 6: a key that stands twice among the Keys is two columns: both have to be items.
func TestKeyTwice(t *testing.T) {
	for _, l := range overGroup([]int{1, 1}) {
		for _, items := range [][]api.Expr{cols(0), cols(1), cols(0, 0), cols(1, 1), {col(0), on(api.NNeg, col(1))}} {
			isNot(t, up(l, project(items...), distinct()))
			stays(t, up(l, project(items...), distinct()))
		}
		tops(t, up(l, project(cols(1, 0)...), distinct()), 6, up(l, project(cols(1, 0)...)))
	}
}

// P16.1, P16.2: rule 6: without keys whatever the items are will do.
func TestNoKeys(t *testing.T) {
	for _, l := range overGroup(nil, agg(api.AggAll), agg(api.AggSum, col(0))) {
		for _, items := range [][]api.Expr{cols(0), cols(1), cols(1, 0), {num(1)}, {bad(0, 1)}, {lit(null), on(api.NAdd, col(0), col(1))}} {
			tops(t, up(l, project(items...), distinct()), 6, up(l, project(items...)))
			becomes(t, up(l, project(items...), distinct()), up(l, project(items...)))
		}
	}
}

// P16.1, P16.2: rule 6: keys as many as there may be, each one missing once.
func TestManyKeys(t *testing.T) {
	var keys []int
	for k := range api.MaxNames {
		keys = append(keys, k%3)
		all := make([]int, len(keys))
		for n := range all {
			all[n] = n
		}
		for _, l := range overGroup(keys, agg(api.AggAll)) {
			tops(t, up(l, project(cols(all...)...), distinct()), 6, up(l, project(cols(all...)...)))
			for n := range all {
				left := slices.Delete(slices.Clone(all), n, n+1)
				isNot(t, up(l, project(cols(append(left, len(keys))...)...), distinct()))
			}
		}
	}
}

// P16.1, P16.2: rule 6: nothing else may stand between, nor may one of these be missing: two filters, a distinct, a join, a union.
func TestDistinctOverWhatIsNoGroup(t *testing.T) {
	g := up(tableT(), group([]int{0}, agg(api.AggAll)))
	p := project(cols(0, 1)...)
	for _, l := range []api.Logic{
		up(g, filter(is(0, 1)), filter(bad(0, 1))), up(g, filter(bad(0, 1)), filter(bad(0, 1)), filter(bad(0, 1))),
		up(g, distinct()), up(g, distinct(), filter(is(0, 1))), up(g, filter(is(0, 1)), distinct()),
		tree(union(), g, g), up(tree(union(), g, g), filter(is(0, 1))), tree(join(false, eq(0, 2)), g, g), tree(join(true, eq(0, 2)), g, tableU()),
		up(tree(join(false, eq(0, 2)), g, g), filter(eq(1, 3))), tableT(), up(tableT(), filter(is(0, 1))), up(g, project(cols(0, 1)...), distinct(), filter(is(0, 1))),
	} {
		if number, _ := oneByRule(up(l, p, distinct())); number != 0 {
			t.Errorf("%v:%v", number, show(l))
		}
		isNot(t, up(l, p, distinct()))
	}
	isNot(t, up(g, distinct()))
	isNot(t, up(g, filter(is(0, 1)), distinct()))
	stays(t, up(g, filter(is(0, 1)), filter(bad(0, 1)), p, distinct()))
	isNot(t, up(g, project(on(api.NAdd, col(0), num(1)), col(0)), p, distinct()))
	stays(t, up(g, project(on(api.NAdd, col(0), num(1)), col(0)), p, distinct()))
}

// P16.2: rule 6: two filters that become one, two projects that become one, and a true one that goes are none between.
func TestDistinctOnceThePartsAreRewritten(t *testing.T) {
	g := up(tableT(), group([]int{0}, agg(api.AggAll)))
	p := project(cols(0, 1)...)
	from := up(g, filter(is(0, 1)), filter(is(1, 2)), p, distinct())
	isNot(t, from)
	becomes(t, from, up(g, filter(all(is(0, 1), is(1, 2))), p))
	from = up(g, project(cols(1, 0)...), project(cols(1, 0)...), distinct())
	isNot(t, from)
	becomes(t, from, up(g, project(cols(0, 1)...)))
	becomes(t, up(g, filter(bad(0, 1)), filter(lit(yes)), p, distinct(), distinct()), up(g, filter(bad(0, 1)), p))
	becomes(t, up(g, project(cols(1, 0)...), distinct(), project(cols(1, 0)...), distinct()), up(g, project(cols(0, 1)...)))
	becomes(t, up(g, project(cols(1, 1)...), distinct(), project(cols(1, 0)...), distinct()), up(g, project(cols(1, 1)...), distinct(), project(cols(1, 0)...), distinct()))
}
