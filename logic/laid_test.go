package logic_test

import (
	"math"
	"slices"
	"testing"

	"bowsprit/api"
	"bowsprit/logic"
)

var anyPlaces = [][2]int{{-1, -1}, {0, 0}, {0, 1}, {1, 0}, {5, -2}, {math.MaxInt, math.MinInt}, {math.MinInt, math.MaxInt}}

// P13.3: each operator over no part, one, two: whatever A and B say; those that want another number of parts may not be.
func TestLeafOneTwo(t *testing.T) {
	for _, l := range each() {
		root := l.Nodes[len(l.Nodes)-1]
		parts := partsByRule[root.Op]
		for _, p := range anyPlaces {
			n := at(root, p[0], p[1])
			answers := []func(api.Logic, api.Errno){isNone(t, api.ErrLogic), isNone(t, api.ErrLogic), isNone(t, api.ErrLogic)}
			answers[parts] = is(t, l)
			answers[0](logic.Leaf(n))
			answers[1](logic.One(n, tableT()))
			answers[2](logic.Two(n, tableT(), tableT()))
		}
	}
	for _, p := range anyPlaces {
		for _, n := range []api.LNode{{}, {Op: api.LInput, Kinds: ints}, {Op: -1}, scan(-1, api.VInt), scan(0), filter(num(1)), {Op: api.LDistinct, Left: true}} {
			n = at(n, p[0], p[1])
			isNone(t, api.ErrLogic)(logic.Leaf(n))
			isNone(t, api.ErrLogic)(logic.One(n, tableT()))
			isNone(t, api.ErrLogic)(logic.Two(n, tableT(), tableT()))
		}
	}
}

// P13.3: parts of several nodes, on both sides: their places are moved, and those of the root stand behind them.
func TestOverParts(t *testing.T) {
	parts := []api.Logic{tableT(), chain(2), chain(3), bushy(5), bushy(6), leaning(7, true), leaning(7, false), tree(filter(lit(no)), tree(union(), chain(2), bushy(4)))}
	for _, x := range parts {
		for _, n := range []api.LNode{filter(on(api.NEq, col(1), lit(text("a")))), distinct(), sortBy(0, api.Ord{Col: 1})} {
			for _, p := range anyPlaces {
				is(t, tree(n, x))(logic.One(at(n, p[0], p[1]), x))
			}
		}
		for _, y := range parts {
			for _, n := range []api.LNode{union(), join(lit(null)), leftJoin(on(api.NEq, col(0), col(2)))} {
				for _, p := range anyPlaces {
					is(t, tree(n, x, y))(logic.Two(at(n, p[0], p[1]), x, y))
				}
			}
		}
	}
}

// P13.3: as many nodes as there may be, and one more.
func TestOverPartsOfLimit(t *testing.T) {
	for _, n := range []api.LNode{filter(lit(yes)), distinct(), sortBy(-1), project(col(0), col(1))} {
		for _, x := range []api.Logic{chain(api.MaxLogic - 1), bushy(api.MaxLogic - 1), leaning(api.MaxLogic-1, true)} {
			is(t, tree(n, x))(logic.One(n, x))
		}
		for _, x := range []api.Logic{chain(api.MaxLogic), bushy(api.MaxLogic), chain(api.MaxLogic + 1)} {
			isNone(t, api.ErrLogic)(logic.One(n, x))
		}
	}
	for left := 1; left < api.MaxLogic-1; left++ {
		x := chain(left)
		is(t, tree(union(), x, bushy(api.MaxLogic-1-left)))(logic.Two(union(), x, bushy(api.MaxLogic-1-left)))
		is(t, tree(union(), bushy(api.MaxLogic-1-left), x))(logic.Two(union(), bushy(api.MaxLogic-1-left), x))
		isNone(t, api.ErrLogic)(logic.Two(union(), x, bushy(api.MaxLogic-left)))
		isNone(t, api.ErrLogic)(logic.Two(union(), bushy(api.MaxLogic-left), x))
	}
	isNone(t, api.ErrLogic)(logic.Two(union(), chain(api.MaxLogic), chain(api.MaxLogic)))
}

// P13.3: parts that may not be, and would come to what may be, if they were just laid one behind the other.
func TestPartsThatFitTogether(t *testing.T) {
	refused := isNone(t, api.ErrLogic)
	two, empty := nodes(a(), b()), api.Logic{}
	loose := nodes(a(), b(), at(union(), -1, -1))
	refused(logic.Two(union(), empty, two))
	refused(logic.Two(union(), two, empty))
	refused(logic.One(union(), two))
	refused(logic.Two(union(), loose, tableT()))
	refused(logic.Two(union(), tableT(), loose))
	refused(logic.One(distinct(), loose))
	refused(logic.One(distinct(), nodes(a(), at(distinct(), 1, -1))))
	refused(logic.Two(union(), tableT(), nodes(at(distinct(), -1, -1), b())))
	refused(logic.One(scan(0, api.VInt), empty))
	refused(logic.Two(scan(0, api.VInt), empty, empty))
	refused(logic.Two(distinct(), tableT(), empty))
	refused(logic.Two(distinct(), empty, tableT()))
	refused(logic.One(distinct(), empty))
}

// P13.3: a node over parts of which one alone goes with it.
func TestOverPartsOfKinds(t *testing.T) {
	refused := isNone(t, api.ErrLogic)
	number, word := table(1, api.VInt), table(2, api.VText)
	refused(logic.Two(union(), number, word))
	refused(logic.Two(union(), number, tableT()))
	refused(logic.One(filter(on(api.NEq, col(0), num(1))), word))
	is(t, tree(filter(on(api.NEq, col(0), num(1))), number))(logic.One(filter(on(api.NEq, col(0), num(1))), number))
	refused(logic.Two(join(on(api.NEq, col(0), col(1))), number, word))
	is(t, tree(join(on(api.NEq, col(0), col(1))), word, word))(logic.Two(join(on(api.NEq, col(0), col(1))), word, word))
	refused(logic.One(group(nil, agg(api.AggSum, col(0))), word))
	refused(logic.One(project(col(1)), word))
	refused(logic.One(sortBy(-1, api.Ord{Col: 1}), word))
	refused(logic.Two(join(lit(yes)), wide(api.MaxWidth), number))
}

// P13.2: the tree of each place; and places that there are none of.
func TestPart(t *testing.T) {
	for _, l := range slices.Concat(each(), great(), []api.Logic{bushy(7), bushy(20), leaning(9, true), leaning(9, false), tree(sortBy(-1), tree(filter(lit(yes)), tree(join(lit(yes)), bushy(6), chain(3))))}) {
		for place := range l.Nodes {
			is(t, belowByRule(l, place))(logic.Part(l, place))
		}
		is(t, l)(logic.Part(l, len(l.Nodes)-1))
		for _, place := range []int{-1, -2, len(l.Nodes), len(l.Nodes) + 1, math.MaxInt, math.MinInt, 1 << 32} {
			isNone(t, api.ErrArg)(logic.Part(l, place))
		}
	}
}

// P13.2: kinds as they come of the root, not of what stands below it.
func TestKindsOfTheRoot(t *testing.T) {
	l := tree(join(lit(yes)), tree(project(col(1), lit(null), lit(yes)), tableT()), tree(group([]int{0}, agg(api.AggCount, col(1))), tableT()))
	may(t, l, api.VText, api.VNull, api.VBool, api.VInt, api.VInt)
	may(t, tree(project(col(2)), l), api.VBool)
	may(t, tree(sortBy(-1, api.Ord{Col: 4}), tree(filter(col(2)), l)), api.VText, api.VNull, api.VBool, api.VInt, api.VInt)
	may(t, tree(group(nil, agg(api.AggMax, col(0)), agg(api.AggSum, col(1)), agg(api.AggMin, col(1))), l), api.VText, api.VInt, api.VNull)
	may(t, tree(union(), tree(project(col(1)), l), tree(project(col(0)), l)), api.VText)
}
