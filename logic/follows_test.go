package logic_test

import (
	"math/rand"
	"slices"
	"testing"

	"bowsprit/api"
	"bowsprit/logic"
)

// anyKinds are kinds of so many columns; those of tables have no nulls.
func anyKinds(r *rand.Rand, count, least int) []int {
	l := make([]int, count)
	for k := range l {
		l[k] = least + r.Intn(api.VText+1-least)
	}
	return l
}

// anyExpr is an expression of whatever kind over columns, and that kind.
func anyExpr(r *rand.Rand, kinds []int) (api.Expr, int) {
	c, d := r.Intn(len(kinds)), r.Intn(4)
	switch r.Intn(7) {
	case 0:
		return lit(valueOf[d]), d
	case 1:
		return on(api.NIsNull, col(c)), api.VBool
	case 2:
		return on(api.NEq, col(c), lit(valueOf[kinds[c]])), api.VBool
	case 3:
		if kinds[c] == api.VInt {
			return on(api.NSub, num(7), col(c)), api.VInt
		}
	case 4:
		return on(api.NOr, on(api.NNotNull, col(c)), lit(null)), api.VBool
	}
	return col(c), kinds[c]
}

// anyCond is one that is a truth, or null.
func anyCond(r *rand.Rand, kinds []int) api.Expr {
	for {
		if x, k := anyExpr(r, kinds); k == api.VBool || k == api.VNull {
			return x
		}
	}
}

func anyAgg(r *rand.Rand, kinds []int) (api.Agg, int) {
	arg, k := anyExpr(r, kinds)
	switch tag := 1 + r.Intn(5); {
	case tag == api.AggAll:
		return agg(tag), api.VInt
	case tag == api.AggMin || tag == api.AggMax:
		return agg(tag, arg), k
	case tag == api.AggSum && k != api.VInt && k != api.VNull:
		return agg(tag, lit(null)), api.VInt
	default:
		return agg(tag, arg), api.VInt
	}
}

func anyGroup(r *rand.Rand, over []int) (api.LNode, []int) {
	n := group(nil)
	var kinds []int
	for range r.Intn(4) {
		k := r.Intn(len(over))
		n.Keys, kinds = append(n.Keys, k), append(kinds, over[k])
	}
	for range r.Intn(5) {
		g, k := anyAgg(r, over)
		n.Aggs, kinds = append(n.Aggs, g), append(kinds, k)
	}
	if len(kinds) == 0 {
		return group(nil, agg(api.AggAll)), ints
	}
	return n, kinds
}

func anyProject(r *rand.Rand, over []int) (api.LNode, []int) {
	n := project()
	var kinds []int
	for range 1 + r.Intn(5) {
		x, k := anyExpr(r, over)
		n.Items, kinds = append(n.Items, x), append(kinds, k)
	}
	return n, kinds
}

// anyUnion is one with a part that is cast to the other's kinds.
func anyUnion(r *rand.Rand, l api.Logic, kinds []int) (api.Logic, []int) {
	if r.Intn(2) == 0 && len(l.Nodes) < 12 {
		return tree(union(), l, l), kinds
	}
	own := anyKinds(r, len(kinds), 0)
	all := slices.Clone(kinds)
	for k := range own {
		if kinds[k] != api.VNull && own[k] != kinds[k] {
			own[k] = api.VNull
		}
		all[k] = max(own[k], kinds[k])
	}
	if r.Intn(2) == 0 {
		return tree(union(), columnsOf(own...), l), all
	}
	return tree(union(), l, columnsOf(own...)), all
}

// anyTree is a tree that may be, no sort in it, and its kinds, reckoned while it grows.
func anyTree(r *rand.Rand, depth int) (api.Logic, []int) {
	if depth == 0 {
		kinds := anyKinds(r, 1+r.Intn(api.MaxColumns), api.VBool)
		return table(r.Intn(api.MaxTables), kinds...), kinds
	}
	l, kinds := anyTree(r, depth-1)
	switch r.Intn(7) {
	case 0, 1:
		other, more := anyTree(r, r.Intn(depth))
		if both := slices.Concat(kinds, more); len(both) <= api.MaxWidth {
			n := join(anyCond(r, both))
			n.Left = r.Intn(2) == 0
			return tree(n, l, other), both
		}
		return tree(distinct(), l), kinds
	case 2:
		return tree(filter(anyCond(r, kinds)), l), kinds
	case 3:
		n, own := anyGroup(r, kinds)
		return tree(n, l), own
	case 4:
		n, own := anyProject(r, kinds)
		return tree(n, l), own
	case 5:
		return tree(distinct(), l), kinds
	}
	return anyUnion(r, l, kinds)
}

// anyQuery is a tree that may be, with a sort as its root as often as not.
func anyQuery(r *rand.Rand) (api.Logic, []int) {
	for {
		l, kinds := anyTree(r, r.Intn(7))
		if r.Intn(2) == 0 {
			n := sortBy(r.Intn(4) - 1)
			for range r.Intn(4) {
				n.Order = append(n.Order, api.Ord{Col: r.Intn(len(kinds)), Desc: r.Intn(2) == 0})
			}
			l = tree(n, l)
		}
		if len(l.Nodes) <= api.MaxLogic {
			return l, kinds
		}
	}
}

// changed is a tree with something else at a place: as often as not it may not be any more.
func changed(r *rand.Rand, l api.Logic, kinds []int) api.Logic {
	l = copyOf(l)
	place := r.Intn(len(l.Nodes))
	n := &l.Nodes[place]
	switch r.Intn(16) {
	case 0:
		n.Op = r.Intn(11)
	case 1:
		n.A += r.Intn(3) - 1
	case 2:
		n.B += r.Intn(3) - 1
	case 3:
		n.Table += r.Intn(3) - 1
	case 4:
		n.Kinds = anyKinds(r, r.Intn(6), r.Intn(2))
	case 5:
		n.Left = !n.Left
	case 6:
		n.Cond, _ = anyExpr(r, anyKinds(r, 1+r.Intn(16), 0))
	case 7:
		n.Keys = append(n.Keys, r.Intn(6))
	case 8:
		for range 1 + r.Intn(11) {
			g, _ := anyAgg(r, kinds)
			n.Aggs = append(n.Aggs, g)
		}
	case 9:
		for range 1 + r.Intn(15) {
			x, _ := anyExpr(r, kinds)
			n.Items = append(n.Items, x)
		}
	case 10:
		n.Order = append(n.Order, api.Ord{Col: r.Intn(5)})
	case 11:
		n.Limit += r.Intn(3) - 1
	case 12:
		other := r.Intn(len(l.Nodes))
		l.Nodes[place], l.Nodes[other] = l.Nodes[other], l.Nodes[place]
	case 13:
		l.Nodes = slices.Delete(l.Nodes, place, place+1)
	case 14:
		l.Nodes = slices.Insert(l.Nodes, place, l.Nodes[r.Intn(len(l.Nodes))])
	case 15:
		l = tree(union(), l, tree(filter(lit(yes)), l))
	}
	return l
}

// isRuled holds a tree against what is reckoned of it, and tells whether it may be.
func isRuled(t *testing.T, l api.Logic) bool {
	t.Helper()
	kinds, place, ok := ruled(l)
	if !ok {
		if got, e := logic.Check(l); got != place || e != api.ErrLogic {
			t.Errorf("%v: %v at %v, not at %v", l, e, got, place)
		}
		if own, e := logic.Kinds(l); e != api.ErrLogic || len(own) != 0 {
			t.Errorf("%v: %v, %v", l, own, e)
		}
		return false
	}
	may(t, l, kinds[len(kinds)-1]...)
	return true
}

// P13.1, P13.2: whatever the tree, and wherever it is wrong.
func TestByRule(t *testing.T) {
	r := rand.New(rand.NewSource(131))
	good, bad := 0, map[int]int{}
	for range 30000 {
		l, kinds := anyQuery(r)
		may(t, l, kinds...)
		for range 1 + r.Intn(2) {
			if len(l.Nodes) > 0 {
				l = changed(r, l, kinds)
			}
		}
		if isRuled(t, l) {
			good++
		} else {
			place, _ := logic.Check(l)
			bad[place]++
		}
	}
	if good < 1000 || len(bad) < 20 || bad[0] < 1000 || bad[3] < 1000 {
		t.Error(good, bad)
	}
}

// madeAgain is what comes, if each node is laid anew over its parts, by Leaf, One and Two.
func madeAgain(t *testing.T, l api.Logic) api.Logic {
	t.Helper()
	n := l.Nodes[len(l.Nodes)-1]
	part := func(place int) api.Logic {
		p, e := logic.Part(l, place)
		if e != api.OK {
			t.Fatal(l, place, e)
		}
		return madeAgain(t, p)
	}
	var made api.Logic
	var e api.Errno
	switch {
	case n.A < 0:
		made, e = logic.Leaf(n)
	case n.B < 0:
		made, e = logic.One(n, part(n.A))
	default:
		made, e = logic.Two(n, part(n.A), part(n.B))
	}
	if e != api.OK {
		t.Fatal(l, e)
	}
	return made
}

// P13.5: each part of a tree may be, has no sort, and is just what stands below it; made of its parts a tree is itself.
func TestPartsOfTrees(t *testing.T) {
	r := rand.New(rand.NewSource(132))
	for range 3000 {
		l, _ := anyQuery(r)
		for place := range l.Nodes {
			is(t, belowByRule(l, place))(logic.Part(l, place))
			part, _ := logic.Part(l, place)
			if place < len(l.Nodes)-1 && slices.ContainsFunc(part.Nodes, func(n api.LNode) bool { return n.Op == api.LSort }) {
				t.Errorf("%v at %v: %v", l, place, part)
			}
		}
		if made := madeAgain(t, l); !logic.Same(made, l) || !same(made, l) {
			t.Errorf("%v, not %v", made, l)
		}
	}
}

// P13.5: joins have as many columns as both parts, filters as many as their part; and so on.
func TestWidthsOfParts(t *testing.T) {
	r := rand.New(rand.NewSource(133))
	seen := map[int]int{}
	for range 3000 {
		l, _ := anyQuery(r)
		width := func(place int) int {
			if place < 0 {
				return 0
			}
			part, _ := logic.Part(l, place)
			kinds, e := logic.Kinds(part)
			if e != api.OK || len(kinds) == 0 || len(kinds) > api.MaxWidth {
				t.Errorf("%v: %v, %v", part, kinds, e)
			}
			return len(kinds)
		}
		for place, n := range l.Nodes {
			seen[n.Op]++
			want := width(n.A)
			switch n.Op {
			case api.LScan:
				want = len(n.Kinds)
			case api.LJoin:
				want += width(n.B)
			case api.LGroup:
				want = len(n.Keys) + len(n.Aggs)
			case api.LProject:
				want = len(n.Items)
			}
			if got := width(place); got != want {
				t.Errorf("%v at %v: %v, not %v", l, place, got, want)
			}
		}
	}
	for op := api.LScan; op <= api.LSort; op++ {
		if seen[op] < 500 {
			t.Error(op, seen)
		}
	}
}

// safeByRule tells it by the tags alone.
func safeByRule(l api.Logic) bool {
	faults := []int{api.NNeg, api.NAdd, api.NSub, api.NMul, api.NDiv}
	for _, n := range l.Nodes {
		all := append(slices.Clone(n.Items), n.Cond)
		for _, g := range n.Aggs {
			if all = append(all, g.Arg); g.Tag == api.AggSum {
				return false
			}
		}
		for _, x := range all {
			if slices.ContainsFunc(x.Nodes, func(k api.ENode) bool { return slices.Contains(faults, k.Tag) }) {
				return false
			}
		}
	}
	return true
}

// P13.4, P13.5: what is safe has safe parts, what has an unsafe part is not; tables are those of its parts.
func TestSafeParts(t *testing.T) {
	r := rand.New(rand.NewSource(134))
	seen := map[bool]int{}
	for range 5000 {
		l, _ := anyQuery(r)
		safe, tables := logic.Safe(l), logic.Tables(l)
		seen[safe]++
		if safe != safeByRule(l) {
			t.Errorf("%v: %v", l, safe)
		}
		var all []int
		for place := range l.Nodes {
			part, _ := logic.Part(l, place)
			if logic.Safe(part) != safeByRule(part) || safe && !logic.Safe(part) {
				t.Errorf("%v at %v: %v, the tree: %v", l, place, logic.Safe(part), safe)
			}
			if place < len(l.Nodes)-1 || len(l.Nodes) == 1 {
				all = append(all, logic.Tables(part)...)
			}
		}
		slices.Sort(all)
		if all = slices.Compact(all); !slices.Equal(all, tables) || len(tables) == 0 {
			t.Errorf("%v: %v, not %v", l, tables, all)
		}
	}
	if seen[true] < 500 || seen[false] < 500 {
		t.Error(seen)
	}
}
