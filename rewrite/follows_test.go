package rewrite_test

import (
	"testing"

	"bowsprit/api"
	"bowsprit/denote"
	"bowsprit/logic"
	"bowsprit/rewrite"
)

// P16.1, P16.2: trees of chance: what each rule makes, and what they are rewritten to, is what is reckoned apart from the program.
func TestByRule(t *testing.T) {
	var often [7]int
	for seed := range int64(60) {
		m := newMaker(seed, []int{1, 3, 9, 50}[seed%4])
		for range 40 {
			l, _ := m.query()
			if _, e := logic.Check(l); e != api.OK {
				t.Fatal(show(l), e)
			}
			ruled(t, l)
			_, done, _ := byRule(l)
			for rule, count := range done {
				often[rule] += count
			}
		}
	}
	for rule, count := range often[1:] {
		if count < 30 {
			t.Errorf("rule %v: %v times", rule+1, count)
		}
	}
}

// comesToTheSame holds that a tree comes to the same rows as another one, or faults where it does, over a database over which it is not too long; and tells the error, and how many rows.
func comesToTheSame(t *testing.T, was, is api.Logic, b api.Base) (api.Errno, int) {
	t.Helper()
	want, e := denote.Rows(was, b)
	if e == api.ErrLong {
		return e, 0
	}
	got, f := denote.Rows(is, b)
	if f != e || !same(got, want) {
		t.Errorf("%v%v\n is rewritten to%v\n over %v: %v, %v, not %v, %v", len(was.Nodes), show(was), show(is), b, f, got, e, want)
	}
	return e, len(want)
}

// P16.4: over databases of chance: the same kinds; rewritten twice as once; the same rows, or a fault where there was one.
func TestWhatFollows(t *testing.T) {
	seen := map[api.Errno]int{}
	changed, rows := 0, 0
	for seed := range int64(120) {
		m := newMaker(seed, []int{1, 2, 6, 20}[seed%4])
		for range 40 {
			l, kinds := m.query()
			made, e := rewrite.Rewrite(l)
			if e != api.OK {
				t.Fatal(show(l), e)
			}
			if own, e := logic.Kinds(made); e != api.OK || !same(own, kinds) {
				t.Errorf("%v: %v, %v, not %v", show(l), own, e, kinds)
			}
			isTree(t, made)(rewrite.Rewrite(made))
			top, done, _ := rewrite.Top(l)
			for range 3 {
				b := m.base()
				e, count := comesToTheSame(t, l, made, b)
				if done {
					comesToTheSame(t, l, top, b)
				}
				if !same(l, made) {
					seen[e]++
					rows += count
				}
			}
			if !same(l, made) {
				changed++
			}
		}
	}
	if changed < 2000 || seen[api.OK] < 4000 || seen[api.ErrFault] < 500 || rows < 4000 {
		t.Error(changed, seen, rows)
	}
}

// links are operators over a tree of two numbers, each of which comes to two numbers again: filters, joins on either side, projects and groups, that may fault and that may not.
func links() []func(l api.Logic) api.Logic {
	var links []func(l api.Logic) api.Logic
	for _, n := range []api.LNode{
		filter(is(0, 1)), filter(on(api.NLt, col(0), col(1))), filter(bad(1, 1)), filter(all(is(1, 2), on(api.NGt, on(api.NAdd, col(0), num(most-1)), num(0)))), filter(lit(yes)),
		project(cols(1, 0)...), project(on(api.NDiv, num(2), col(0)), col(1)), project(col(0), on(api.NAdd, col(1), num(most-1))), distinct(),
		group([]int{0}, agg(api.AggSum, col(1))), group([]int{1}, agg(api.AggMin, on(api.NDiv, num(1), col(0)))),
	} {
		links = append(links, func(l api.Logic) api.Logic { return up(l, n) })
	}
	for _, left := range []bool{false, true} {
		for _, cond := range []api.Expr{eq(0, 2), bad(0, 2), on(api.NNe, col(1), col(2))} {
			links = append(links,
				func(l api.Logic) api.Logic { return up(tree(join(left, cond), l, wide(1, 1)), project(cols(0, 2)...)) },
				func(l api.Logic) api.Logic {
					return up(tree(join(left, cond), wide(2, 2), l), filter(all(is(0, 1), is(3, 2))), project(cols(3, 1)...))
				})
		}
	}
	return links
}

// P16.4: three of these, one over the other, in each order, over rows that fault somewhere, and that do not: a division by 0, a sum beyond 64 bits, on either side of each.
func TestFaultsOnEitherSide(t *testing.T) {
	bases := []api.Base{
		base(list("1 2/3 2/-1 -1"), list("1/2"), list("1 2/2 2")), base(list("1 1/1 2"), list("1"), list("1 0/2 2")), base(list("0 2/1 2/NULL 2"), list("0/NULL/1"), list("1 NULL")),
		base([]api.Row{{number(most), number(2)}, {number(1), number(most)}, {number(1), number(2)}}, list("1/3"), list("1 2/5 6")), base(nil, list("1"), list("1 2")), base(list("2 NULL/2 -3"), nil, list("0 0")),
	}
	seen := map[api.Errno]int{}
	changed := 0
	for _, a := range links() {
		for _, b := range links() {
			for _, c := range links() {
				l := c(b(a(tableT())))
				made, e := rewrite.Rewrite(l)
				isTree(t, made)(rewrite.Rewrite(made))
				sameKinds(t, l, made)
				if e != api.OK || same(l, made) {
					continue
				}
				changed++
				for _, rows := range bases {
					e, _ := comesToTheSame(t, l, made, rows)
					seen[e]++
				}
			}
		}
	}
	if changed < 2000 || seen[api.OK] < 3000 || seen[api.ErrFault] < 3000 {
		t.Error(changed, seen)
	}
}
