package logic_test

import (
	"math"
	"slices"
	"testing"

	"bowsprit/api"
	"bowsprit/logic"
)

var ints = []int{api.VInt}

// P13.1, P13.2: the chapter's examples.
func TestExamples(t *testing.T) {
	may(t, tree(join(lit(yes)), tableT(), tableT()), api.VInt, api.VText, api.VInt, api.VText)
	may(t, tree(group([]int{1}, agg(api.AggAll), agg(api.AggMin, col(0))), tableT()), api.VText, api.VInt, api.VInt)
	mayNot(t, 1, tree(filter(col(0)), tableT()))
	may(t, tree(union(), tableT(), tree(project(lit(null), col(1)), tableT())), api.VInt, api.VText)
	may(t, tableT(), api.VInt, api.VText)
}

// P13.1: each table, and each number that is none.
func TestScanOfTables(t *testing.T) {
	for n := range api.MaxTables {
		mayBe(t, ints, scan(n, api.VInt))
	}
	for _, n := range []int{api.MaxTables, api.MaxTables + 1, -1, -2, math.MaxInt, math.MinInt, 1 << 32, 256} {
		mayNotBe(t, scan(n, api.VInt))
	}
}

// P13.1: from one column to as many as there may be, each of each kind; and none, one more, and what is no kind at each place.
func TestScanOfKinds(t *testing.T) {
	kinds := []int{api.VBool, api.VInt, api.VText}
	mayNotBe(t, scan(0))
	mayNotBe(t, api.LNode{Op: api.LScan, Kinds: []int{}})
	for count := range api.MaxColumns {
		for k := range 3 {
			l := slices.Repeat([]int{kinds[k]}, count)
			for _, last := range kinds {
				all := append(slices.Clone(l), last)
				mayBe(t, all, scan(1, all...))
			}
			for place := range count + 1 {
				for _, wrong := range []int{api.VNull, api.VSum, -1, api.VSum + 1, math.MaxInt, math.MinInt, 1<<32 + 1} {
					mayNotBe(t, scan(1, slices.Insert(slices.Clone(l), place, wrong)...))
				}
			}
		}
	}
	for _, k := range kinds {
		mayNotBe(t, scan(0, slices.Repeat([]int{k}, api.MaxColumns+1)...))
		mayNotBe(t, scan(0, slices.Repeat([]int{k}, 1<<16)...))
	}
}

// conditions are such as may stand over VInt, VText, VBool, VNull, and such as may not.
func conditions() (good, bad []api.Expr) {
	good = []api.Expr{
		lit(yes), lit(no), lit(null), col(2), col(3), on(api.NNot, col(2)), on(api.NEq, col(0), num(1)), on(api.NEq, col(0), col(3)),
		on(api.NIsNull, col(1)), on(api.NOr, on(api.NLt, col(0), num(1)), on(api.NAnd, col(2), col(3))), on(api.NEq, on(api.NDiv, num(1), num(0)), num(1)),
	}
	bad = []api.Expr{
		num(0), num(1), lit(text("")), lit(text("a")), col(0), col(1), col(4), col(5), col(api.MaxWidth - 1), on(api.NAdd, col(0), num(1)), on(api.NNeg, col(3)),
		on(api.NEq, col(0), col(1)), on(api.NNot, col(0)), on(api.NAnd, col(2), col(1)), on(api.NAnd, col(2), col(4)), on(api.NIsNull, col(4)), {},
	}
	return good, slices.Concat(bad, noExprs(), noKinds())
}

// P13.1: a condition is a truth, or null, over columns that are there.
func TestFilter(t *testing.T) {
	kinds := []int{api.VInt, api.VText, api.VBool, api.VNull}
	good, bad := conditions()
	for _, x := range good {
		mayBe(t, kinds, filter(x), columnsOf(kinds...))
	}
	for _, x := range bad {
		mayNotBe(t, filter(x), columnsOf(kinds...))
	}
	for width := 1; width <= api.MaxWidth; width++ {
		for n := range api.MaxWidth {
			if x := on(api.NIsNull, col(n)); n < width {
				mayBe(t, slices.Repeat(ints, width), filter(x), wide(width))
			} else {
				mayNotBe(t, filter(x), wide(width))
			}
		}
	}
}

// P13.1: so of a join, over the columns of both; left or not.
func TestJoin(t *testing.T) {
	good, bad := conditions()
	kinds := []int{api.VInt, api.VText, api.VBool, api.VNull}
	for split := 1; split < len(kinds); split++ {
		a, b := columnsOf(kinds[:split]...), columnsOf(kinds[split:]...)
		for _, x := range good {
			mayBe(t, kinds, join(x), a, b)
			mayBe(t, kinds, leftJoin(x), a, b)
		}
		for _, x := range bad {
			mayNotBe(t, join(x), a, b)
			mayNotBe(t, leftJoin(x), a, b)
		}
	}
}

// P13.1: a join of as many columns as there may be, and of one more; each of them may be asked.
func TestJoinOfWidth(t *testing.T) {
	for a := 1; a <= api.MaxWidth; a++ {
		for b := 1; b <= api.MaxWidth; b++ {
			if a+b > api.MaxWidth {
				mayNotBe(t, join(lit(yes)), wide(a), wide(b))
				continue
			}
			mayBe(t, slices.Repeat(ints, a+b), join(on(api.NIsNull, col(a+b-1))), wide(a), wide(b))
			if a+b < api.MaxWidth {
				mayNotBe(t, leftJoin(on(api.NIsNull, col(a+b))), wide(a), wide(b))
			}
		}
	}
	four := table(0, api.VInt, api.VInt, api.VInt, api.VInt)
	eight := tree(join(lit(yes)), four, four)
	may(t, tree(join(lit(yes)), eight, eight), slices.Repeat(ints, 16)...)
	mayNot(t, len(eight.Nodes)*2+2, tree(join(lit(yes)), eight, tree(join(lit(yes)), eight, table(1, api.VInt))))
}

// P13.1: keys and aggregates, as many as there may be, and one more; one of both at least.
func TestGroupOfCounts(t *testing.T) {
	for keys := range api.MaxNames + 2 {
		for aggs := range api.MaxAggs + 2 {
			n := group(slices.Repeat([]int{1}, keys), slices.Repeat([]api.Agg{agg(api.AggAll)}, aggs)...)
			if keys <= api.MaxNames && aggs <= api.MaxAggs && keys+aggs > 0 {
				mayBe(t, append(slices.Repeat([]int{api.VText}, keys), slices.Repeat(ints, aggs)...), n, tableT())
			} else {
				mayNotBe(t, n, tableT())
			}
		}
	}
	mayNotBe(t, api.LNode{Op: api.LGroup, Keys: []int{}, Aggs: []api.Agg{}}, tableT())
	mayNotBe(t, group(make([]int, 1<<16)), tableT())
	mayNotBe(t, group(nil, slices.Repeat([]api.Agg{agg(api.AggAll)}, 1<<16)...), tableT())
}

// P13.1: keys are places of columns, in any order, any often.
func TestGroupByKeys(t *testing.T) {
	kinds := []int{api.VInt, api.VText, api.VBool, api.VNull}
	for a := -1; a <= len(kinds); a++ {
		for b := -1; b <= len(kinds); b++ {
			n := group([]int{a, b, a})
			if a < 0 || b < 0 || a == len(kinds) || b == len(kinds) {
				mayNotBe(t, n, columnsOf(kinds...))
			} else {
				mayBe(t, []int{kinds[a], kinds[b], kinds[a]}, n, columnsOf(kinds...))
			}
		}
	}
	for _, k := range []int{math.MaxInt, math.MinInt, 16, 1 << 32} {
		mayNotBe(t, group([]int{k}), columnsOf(kinds...))
		mayNotBe(t, group([]int{0, k}, agg(api.AggAll)), columnsOf(kinds...))
	}
	mayBe(t, ints, group([]int{15}), wide(16))
	mayNotBe(t, group([]int{15}), wide(15))
}

// P13.1: each aggregate over each kind, with an Arg that may be and with one that may not.
func TestAggregates(t *testing.T) {
	kinds := []int{api.VNull, api.VBool, api.VInt, api.VText}
	over := columnsOf(kinds...)
	for tag := -2; tag < 10; tag++ {
		for column, kind := range kinds {
			for _, arg := range []api.Expr{col(column), lit(valueOf[kind])} {
				a := agg(tag, arg)
				switch {
				case tag == api.AggCount || tag == api.AggSum && (kind == api.VInt || kind == api.VNull):
					mayBe(t, ints, group(nil, a), over)
				case tag == api.AggMin || tag == api.AggMax:
					mayBe(t, []int{kind}, group(nil, a), over)
				default:
					mayNotBe(t, group(nil, a), over)
					mayNotBe(t, group([]int{0}, agg(api.AggAll), a), over)
				}
			}
		}
		if tag == api.AggAll {
			mayBe(t, ints, group(nil, agg(tag)), over)
			mayBe(t, ints, group(nil, agg(tag, api.Expr{Nodes: []api.ENode{}})), over)
		} else {
			mayNotBe(t, group(nil, agg(tag)), over)
			mayNotBe(t, group(nil, agg(tag, api.Expr{Nodes: []api.ENode{}})), over)
		}
		for _, x := range slices.Concat(noExprs()[1:], noKinds(), []api.Expr{col(4), on(api.NAdd, col(2), col(4)), on(api.NAdd, col(2), col(3))}) {
			mayNotBe(t, group(nil, agg(tag, x)), over)
			mayNotBe(t, group([]int{1}, agg(api.AggCount, col(0)), agg(tag, x), agg(api.AggAll)), over)
		}
	}
	for _, tag := range []int{math.MaxInt, math.MinInt, 1<<32 + api.AggCount, 256 + api.AggMin} {
		mayNotBe(t, group(nil, agg(tag, col(2))), over)
		mayNotBe(t, group(nil, agg(tag)), over)
	}
	sum := on(api.NAdd, col(2), on(api.NNeg, col(0)))
	mayBe(t, []int{api.VNull, api.VInt, api.VInt, api.VInt, api.VBool, api.VText}, group([]int{0}, agg(api.AggSum, sum), agg(api.AggMin, sum), agg(api.AggCount, on(api.NEq, col(2), sum)), agg(api.AggMax, on(api.NEq, col(2), sum)), agg(api.AggMax, col(3))), over)
}

// P13.1: items, from one to as many as there may be, of each kind.
func TestProject(t *testing.T) {
	kinds := []int{api.VInt, api.VText, api.VBool, api.VNull}
	over := columnsOf(kinds...)
	good := []api.Expr{col(0), col(1), col(2), col(3), num(5), lit(text("a")), lit(yes), lit(null), on(api.NNeg, col(3)), on(api.NMul, col(0), num(2)), on(api.NEq, col(1), lit(null))}
	want := []int{api.VInt, api.VText, api.VBool, api.VNull, api.VInt, api.VText, api.VBool, api.VNull, api.VInt, api.VInt, api.VBool}
	mayNotBe(t, project(), over)
	mayNotBe(t, api.LNode{Op: api.LProject, Items: []api.Expr{}}, over)
	for k, x := range good {
		for count := 1; count <= api.MaxWidth; count++ {
			mayBe(t, slices.Repeat([]int{want[k]}, count), project(slices.Repeat([]api.Expr{x}, count)...), over)
		}
		mayNotBe(t, project(slices.Repeat([]api.Expr{x}, api.MaxWidth+1)...), over)
	}
	mayBe(t, want, project(good...), over)
	mayNotBe(t, project(make([]api.Expr, 1<<16)...), over)
	for _, x := range slices.Concat(noExprs(), noKinds(), []api.Expr{{}, col(4), on(api.NEq, col(0), col(4)), on(api.NEq, col(0), col(1))}) {
		for place := range 4 {
			mayNotBe(t, project(slices.Insert(slices.Clone(good[:3]), place, x)...), over)
		}
	}
}

// P13.1: whatever is made distinct.
func TestDistinct(t *testing.T) {
	for _, kinds := range [][]int{{api.VNull}, {api.VInt, api.VText}, slices.Repeat([]int{api.VBool}, api.MaxWidth)} {
		mayBe(t, kinds, distinct(), columnsOf(kinds...))
	}
}

// P13.1: both parts of as many columns, each two alike, or one of them null.
func TestUnion(t *testing.T) {
	for a := range 4 {
		for b := range 4 {
			for c := range 4 {
				one, two := columnsOf(api.VText, a, api.VNull), columnsOf(api.VText, b, c)
				if a == b || a == api.VNull || b == api.VNull {
					mayBe(t, []int{api.VText, max(a, b), c}, union(), one, two)
					mayBe(t, []int{api.VText, max(a, b), c}, union(), two, one)
				} else {
					mayNotBe(t, union(), one, two)
					mayNotBe(t, union(), two, one)
				}
			}
		}
	}
	for a := 1; a <= api.MaxWidth; a++ {
		for b := 1; b <= api.MaxWidth; b++ {
			if a == b {
				mayBe(t, slices.Repeat(ints, a), union(), wide(a), wide(b))
			} else {
				mayNotBe(t, union(), wide(a), wide(b))
				mayNotBe(t, union(), columnsOf(make([]int, a)...), wide(b))
				mayNotBe(t, union(), wide(a), columnsOf(make([]int, b)...))
			}
		}
	}
	nulls := columnsOf(api.VNull, api.VNull)
	may(t, tree(union(), tree(union(), nulls, nulls), tree(union(), columnsOf(api.VNull, api.VText), columnsOf(api.VInt, api.VNull))), api.VInt, api.VText)
	mayNot(t, 7, tree(union(), tree(union(), nulls, columnsOf(api.VBool, api.VNull)), columnsOf(api.VInt, api.VNull)))
}

// P13.1: by as many columns as there may be, and one more, and none; each limit, and each that is none.
func TestSort(t *testing.T) {
	kinds := []int{api.VInt, api.VText, api.VBool, api.VNull}
	over := columnsOf(kinds...)
	for count := range api.MaxKeys + 1 {
		mayBe(t, kinds, sortBy(-1, slices.Repeat([]api.Ord{{Col: 3, Desc: count%2 == 0}}, count)...), over)
	}
	mayBe(t, kinds, api.LNode{Op: api.LSort, Order: []api.Ord{}, Limit: -1}, over)
	mayNotBe(t, sortBy(-1, make([]api.Ord, api.MaxKeys+1)...), over)
	mayNotBe(t, sortBy(-1, make([]api.Ord, 1<<16)...), over)
	for _, limit := range []int{-1, 0, 1, 2, 1 << 20, api.MaxNumber - 1, api.MaxNumber} {
		mayBe(t, kinds, sortBy(limit, api.Ord{Col: 1}), over)
		mayBe(t, kinds, sortBy(limit), over)
	}
	for _, limit := range []int{-2, -3, api.MaxNumber + 1, api.MaxNumber + 2, 1 << 32, math.MaxInt, math.MinInt} {
		mayNotBe(t, sortBy(limit, api.Ord{Col: 1}), over)
		mayNotBe(t, sortBy(limit), over)
	}
	for column := range kinds {
		mayBe(t, kinds, sortBy(0, api.Ord{Col: column}, api.Ord{Col: column, Desc: true}), over)
	}
	for _, column := range []int{-1, len(kinds), api.MaxWidth, math.MaxInt, math.MinInt, 1 << 32} {
		mayNotBe(t, sortBy(0, api.Ord{Col: column}), over)
		mayNotBe(t, sortBy(0, api.Ord{}, api.Ord{Col: 1, Desc: true}, api.Ord{Col: column, Desc: true}), over)
	}
}

// P13.1: a sort is the root, and stands nowhere below it.
func TestSortIsTheRoot(t *testing.T) {
	s := tree(sortBy(-1, api.Ord{}), tableT())
	may(t, s, api.VInt, api.VText)
	may(t, tableT(), api.VInt, api.VText)
	for _, n := range []api.LNode{filter(lit(yes)), group([]int{0}), project(col(0)), distinct(), sortBy(-1), sortBy(-1, api.Ord{})} {
		mayNot(t, 1, tree(n, s))
		mayNot(t, 1, tree(distinct(), tree(n, s)))
		isNone(t, api.ErrLogic)(logic.One(n, s))
	}
	for _, n := range []api.LNode{join(lit(yes)), leftJoin(lit(yes)), union()} {
		mayNot(t, 1, tree(n, s, tableT()))
		mayNot(t, 2, tree(n, tableT(), s))
		mayNot(t, 1, tree(n, s, s))
		isNone(t, api.ErrLogic)(logic.Two(n, s, tableT()))
		isNone(t, api.ErrLogic)(logic.Two(n, tableT(), s))
		isNone(t, api.ErrLogic)(logic.Two(n, s, s))
	}
	mayNot(t, 1, nodes(append(s.Nodes, scan(0, api.VInt))...))
}

// P13.1: what is no operator, with whatever parts.
func TestNoOperators(t *testing.T) {
	for _, op := range []int{0, -1, -8, api.LSort + 1, api.LInput, api.LPartial, api.LFinal, 12, 256 + api.LDistinct, 1<<32 + api.LScan, math.MaxInt, math.MinInt} {
		n := api.LNode{Op: op}
		mayNotBe(t, n)
		mayNotBe(t, n, tableT())
		mayNotBe(t, n, tableT(), tableT())
		mayNotBe(t, api.LNode{Op: op, Kinds: ints})
		mayNotBe(t, api.LNode{Op: op, Kinds: ints, Limit: -1}, tableT())
		mayNot(t, 0, nodes(n))
	}
}

// P13.1: what does not count is zero, of each operator, each field alone.
func TestWhatDoesNotCount(t *testing.T) {
	fields := []struct {
		name string
		fill func(n *api.LNode)
	}{
		{"Table", func(n *api.LNode) { n.Table = 1 }},
		{"Table", func(n *api.LNode) { n.Table = -1 }},
		{"Kinds", func(n *api.LNode) { n.Kinds = []int{api.VInt} }},
		{"Kinds", func(n *api.LNode) { n.Kinds = []int{api.VInt, api.VText} }},
		{"Left", func(n *api.LNode) { n.Left = true }},
		{"Cond", func(n *api.LNode) { n.Cond = lit(yes) }},
		{"Keys", func(n *api.LNode) { n.Keys = []int{0} }},
		{"Aggs", func(n *api.LNode) { n.Aggs = []api.Agg{{}} }},
		{"Aggs", func(n *api.LNode) { n.Aggs = []api.Agg{agg(api.AggAll)} }},
		{"Items", func(n *api.LNode) { n.Items = []api.Expr{{}} }},
		{"Items", func(n *api.LNode) { n.Items = []api.Expr{col(0)} }},
		{"Order", func(n *api.LNode) { n.Order = []api.Ord{{}} }},
		{"Limit", func(n *api.LNode) { n.Limit = -1 }},
		{"Limit", func(n *api.LNode) { n.Limit = 1 }},
	}
	counts := map[int][]string{
		api.LScan: {"Table", "Kinds"}, api.LJoin: {"Left", "Cond"}, api.LFilter: {"Cond"}, api.LGroup: {"Keys", "Aggs"},
		api.LProject: {"Items"}, api.LDistinct: nil, api.LUnion: nil, api.LSort: {"Order", "Limit"},
	}
	for _, l := range each() {
		place := len(l.Nodes) - 1
		parts := [][]api.Logic{nil, {tableT()}, {tableT(), tableT()}}[place]
		root := l.Nodes[place]
		for _, f := range fields {
			if slices.Contains(counts[root.Op], f.name) {
				continue
			}
			n := root
			f.fill(&n)
			mayNotBe(t, n, parts...)
		}
		n := root // lists that are there, and empty, are as none
		if n.Op != api.LScan {
			n.Kinds = []int{}
		}
		if len(n.Cond.Nodes) == 0 {
			n.Cond.Nodes = []api.ENode{}
		}
		if len(n.Keys) == 0 {
			n.Keys = []int{}
		}
		if len(n.Aggs) == 0 {
			n.Aggs = []api.Agg{}
		}
		if len(n.Items) == 0 {
			n.Items = []api.Expr{}
		}
		if len(n.Order) == 0 {
			n.Order = make([]api.Ord, 0, 5)
		}
		kinds, _, _ := ruled(l)
		mayBe(t, kinds[place], n, parts...)
	}
}
