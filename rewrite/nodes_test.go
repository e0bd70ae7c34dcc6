package rewrite_test

import (
	"testing"

	"bowsprit/api"
)

// tall is a tree with as many nodes above it as it takes to have so many; no rule holds of these.
func tall(l api.Logic, nodes int) api.Logic {
	for len(l.Nodes) < nodes {
		l = up(l, filter(bad(0, int64(len(l.Nodes)))))
	}
	return l
}

// tallT is one of so many nodes, two columns wide, above which a filter stays alone.
func tallT(nodes int) api.Logic {
	return up(tall(tableT(), nodes-1), group([]int{0, 1}))
}

// goes is a filter by Ands over a join of such a tree and of u, so many nodes in all.
func goes(nodes int, ands ...api.Expr) api.Logic {
	return up(tree(join(false, lit(yes)), tallT(nodes-3), tableU()), filter(all(ands...)))
}

// growing are Ands above a join, by how many nodes more there are when they went.
func growing() [3][][]api.Expr {
	a, b, c := is(0, 1), is(2, 2), eq(1, 2)
	return [3][][]api.Expr{
		{{a}, {b}, {lit(no)}, {a, is(1, 5)}, {b, is(2, 7)}},
		{{a, b}, {a, c}, {b, c}, {c, b, is(2, 0)}, {b, lit(no)}},
		{{a, b, c}, {b, c, a}, {c, lit(no), b, a}},
	}
}

// P16.1, P16.2: trees of as many nodes as one may have, of which no rule holds; or just rules by which there are not more.
func TestMostNodesAtTheBeginning(t *testing.T) {
	stays(t, tallT(api.MaxLogic))
	stays(t, tall(tableT(), api.MaxLogic))
	stays(t, up(tallT(api.MaxLogic-1), sortBy(3)))
	low := tallT(api.MaxLogic - 1)
	tops(t, up(low, filter(lit(yes))), 1, low)
	becomes(t, up(low, filter(lit(yes))), low)
	low = tallT(api.MaxLogic - 2)
	becomes(t, up(low, filter(is(0, 1)), filter(is(1, 2))), up(low, filter(all(is(0, 1), is(1, 2)))))
	becomes(t, up(low, project(col(0)), project(col(0))), up(low, project(col(0))))
	becomes(t, up(low, distinct(), distinct()), up(low, distinct()))
	becomes(t, up(low, project(cols(0, 1)...), distinct()), up(low, project(cols(0, 1)...)))
	var trues []api.LNode
	for range api.MaxLogic - 1 {
		trues = append(trues, filter(lit(yes)))
	}
	becomes(t, up(tableT(), trues...), tableT())
}

// P16.1, P16.2: at the end: a tree that would have as many nodes as one may have is made; of one more all stays.
func TestNodesAtTheEnd(t *testing.T) {
	for more, conds := range growing() {
		for _, cond := range conds {
			for count := api.MaxLogic - 4; count <= api.MaxLogic; count++ {
				l := goes(count, cond...)
				if count+more > api.MaxLogic {
					stays(t, l)
					continue
				}
				isTopOfRule(t, l, 3)
				if want := ruled(t, l); len(want.Nodes) != count+more || same(want, l) {
					t.Errorf("%v nodes of %v, not %v", len(want.Nodes), count, count+more)
				}
			}
		}
	}
}

// P16.2: and all stays of what other rules would have done, in whatever part: each of these trees would have one node more than it has.
func TestAllStays(t *testing.T) {
	ands := []api.Expr{is(0, 1), is(2, 2), eq(1, 2)}
	less, two := up(tableT(), filter(lit(yes))), project(cols(0, 1)...)
	for count := api.MaxLogic - 4; count <= api.MaxLogic; count++ {
		for _, l := range []api.Logic{
			up(goes(count-2, ands...), filter(lit(yes)), filter(bad(0, 0))),
			up(goes(count-3, ands...), distinct(), distinct(), sortBy(1)),
			up(goes(count-2, ands[:2]...), distinct(), filter(bad(0, 1))),
			tree(union(), up(goes(count-4, ands...), two), less),
			tree(union(), less, up(goes(count-4, ands...), two)),
			tree(join(true, lit(no)), goes(count-3, ands...), less),
			up(tree(join(true, bad(0, 0)), up(goes(count-6, ands...), distinct()), up(less, distinct())), filter(is(0, 1))),
		} {
			if len(l.Nodes) != count {
				t.Fatal(len(l.Nodes), count, show(l))
			}
			want := ruled(t, l)
			if stay := count == api.MaxLogic; stay != same(want, l) {
				t.Errorf("%v nodes of %v", len(want.Nodes), count)
			}
		}
	}
}

// P16.1, P16.2: on the way: what a rule makes has one node too many, though at the end there would be less of them.
func TestNodesOnTheWay(t *testing.T) {
	a, b, c := is(0, 1), is(2, 2), eq(1, 2)
	for count := api.MaxLogic - 4; count <= api.MaxLogic; count++ {
		for _, cond := range []struct {
			ands  []api.Expr
			more  int
			after api.Logic
		}{
			{[]api.Expr{a, b}, 1, tree(join(false, lit(yes)), up(tallT(count-5), filter(all(c2(), a))), up(tableU(), filter(all(is(0, 9), is(0, 2)))))},
			{[]api.Expr{b, c, a}, 2, up(tree(join(false, lit(yes)), up(tallT(count-5), filter(all(c2(), a))), up(tableU(), filter(all(is(0, 9), is(0, 2))))), filter(c))},
			{[]api.Expr{a, c}, 1, up(tree(join(false, lit(yes)), up(tallT(count-5), filter(all(c2(), a))), up(tableU(), filter(is(0, 9)))), filter(c))},
		} {
			l := up(tree(join(false, lit(yes)), up(tallT(count-5), filter(c2())), up(tableU(), filter(is(0, 9)))), filter(all(cond.ands...)))
			if len(l.Nodes) != count || len(cond.after.Nodes) > count {
				t.Fatal(len(l.Nodes), len(cond.after.Nodes), count)
			}
			if count+cond.more > api.MaxLogic {
				stays(t, l)
				continue
			}
			becomes(t, l, cond.after)
			isTopOfRule(t, l, 3)
		}
	}
}

// c2 is a condition over both of t's columns.
func c2() api.Expr {
	return on(api.NLt, col(0), col(1))
}

// P16.2: in a part alone: what a rule makes of it has one node too many, though the whole would not have, at the end; and just as many as there may be.
func TestNodesOfAPart(t *testing.T) {
	ands := all(is(0, 1), is(2, 2), eq(1, 2))
	for count := api.MaxLogic - 6; count < api.MaxLogic; count++ {
		part := up(tree(join(false, lit(yes)), up(tallT(count-5), filter(c2())), up(tableU(), filter(is(0, 9)))), filter(ands))
		made := up(tree(join(false, lit(yes)), up(tallT(count-5), filter(all(c2(), is(0, 1)))), up(tableU(), filter(all(is(0, 9), is(0, 2))))), filter(eq(1, 2)))
		if len(part.Nodes) != count || len(made.Nodes) != count {
			t.Fatal(len(part.Nodes), len(made.Nodes))
		}
		for _, root := range []api.LNode{distinct(), sortBy(2), group(nil, agg(api.AggAll)), project(on(api.NNeg, col(0))), filter(bad(0, 1))} {
			if count+2 > api.MaxLogic {
				stays(t, up(part, root))
			} else {
				becomes(t, up(part, root), up(made, root))
			}
		}
	}
}

// P16.2: parts count by themselves: a rule makes one greater, another one another less, and both fit together.
func TestPartsTogether(t *testing.T) {
	a, b := is(0, 1), is(2, 2)
	for _, less := range []api.Logic{up(tableT(), distinct(), distinct()), up(tableT(), filter(lit(yes))), up(tableT(), filter(is(0, 1)), filter(is(1, 1)))} {
		low := ruled(t, less)
		for count := api.MaxLogic - 3; count <= api.MaxLogic; count++ {
			part := goes(count-1-len(less.Nodes), a, b)
			made := ruled(t, part)
			if len(made.Nodes) != len(part.Nodes)+1 || len(low.Nodes) != len(less.Nodes)-1 {
				t.Fatal(len(made.Nodes), len(low.Nodes))
			}
			becomes(t, tree(join(true, lit(yes)), part, less), tree(join(true, lit(yes)), made, low))
			becomes(t, tree(join(true, lit(yes)), less, part), tree(join(true, lit(yes)), low, made))
		}
	}
}
