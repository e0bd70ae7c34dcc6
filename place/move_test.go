package place_test

import (
	"testing"

	"bowsprit/api"
	"bowsprit/place"
)

// P17.4: written out: behind all others of its table at its new node, or at its own.
func TestMoveKnown(t *testing.T) {
	c := chapters()
	l := layout(base(list("NULL"), list("1 / 2 / 3")), base(list("1 / 1"), list("4 / 5")))
	moved := func(first, second string) api.Layout {
		out := copyOf(l)
		out.Parts[0].Tables[1], out.Parts[1].Tables[1] = list(first), list(second)
		return out
	}
	is(t, moved("2 / 3", "4 / 5 / 1"))(place.Move(c, l, 1, 1, 0, 2))
	is(t, moved("1 / 3", "4 / 5 / 2"))(place.Move(c, l, 1, 1, 1, 2))
	is(t, moved("1 / 2", "4 / 5 / 3"))(place.Move(c, l, 1, 1, 2, 2))
	is(t, moved("1 / 2 / 3 / 4", "5"))(place.Move(c, l, 1, 2, 0, 1))
	is(t, moved("2 / 3 / 1", "4 / 5"))(place.Move(c, l, 1, 1, 0, 1))
	is(t, moved("1 / 3 / 2", "4 / 5"))(place.Move(c, l, 1, 1, 1, 1))
	is(t, l)(place.Move(c, l, 1, 1, 2, 1))
	is(t, l)(place.Move(c, l, 1, 2, 1, 2))
	is(t, l)(place.Move(c, l, 0, 1, 0, 1))
	is(t, l)(place.Move(c, l, 0, 2, 0, 2))
	isNone[api.Layout](t, api.ErrScheme)(place.Move(c, l, 0, 1, 0, 2))
	isNone[api.Layout](t, api.ErrScheme)(place.Move(c, l, 0, 2, 1, 1))
}

// P17.4: of rows that are alike one goes, and the others stay in their order; the other tables stay as they are.
func TestMoveAlike(t *testing.T) {
	c := cat(tab("u", "a int b int"), tab("v", "a int b int"))
	l := layout(base(list("1 1 / 2 2 / 1 1 / 3 3 / 1 1"), list("1 1 / 2 2 / 1 1")), base(list("1 1"), list("1 1")))
	is(t, layout(base(list("1 1 / 2 2 / 3 3 / 1 1"), list("1 1 / 2 2 / 1 1")), base(list("1 1 / 1 1"), list("1 1"))))(place.Move(c, l, 0, 1, 2, 2))
	is(t, layout(base(list("1 1 / 2 2 / 3 3 / 1 1 / 1 1"), list("1 1 / 2 2 / 1 1")), base(list("1 1"), list("1 1"))))(place.Move(c, l, 0, 1, 2, 1))
	is(t, layout(base(list("2 2 / 1 1 / 3 3 / 1 1"), list("1 1 / 2 2 / 1 1")), base(list("1 1 / 1 1"), list("1 1"))))(place.Move(c, l, 0, 1, 0, 2))
	is(t, layout(base(list("1 1 / 2 2 / 1 1 / 3 3 / 1 1"), list("1 1 / 2 2 / 1 1 / 1 1")), base(list("1 1"), nil)))(place.Move(c, l, 1, 2, 0, 1))
}

// P17.4: with Keys within a node: the order of the rows is all that changes.
func TestMoveWithinScheme(t *testing.T) {
	c := cat(tab("t", "a int b int", 0))
	l := layout(base(nil), base(list("1 5 / 1 6 / 1 5 / 1 7")))
	is(t, layout(base(nil), base(list("1 6 / 1 5 / 1 7 / 1 5"))))(place.Move(c, l, 0, 2, 0, 2))
	is(t, layout(base(nil), base(list("1 5 / 1 6 / 1 7 / 1 5"))))(place.Move(c, l, 0, 2, 2, 2))
	is(t, l)(place.Move(c, l, 0, 2, 3, 2))
	for at := range 4 {
		isNone[api.Layout](t, api.ErrScheme)(place.Move(c, l, 0, 2, at, 1))
	}
}

// P17.4: a layout need not obey: a row that lies astray may not go, not even to where it should lie, and may be put behind the others.
func TestMoveOfWhatDoesNotObey(t *testing.T) {
	c := cat(tab("t", "a int", 0), tab("u", "a int"))
	l := layout(base(list("1 / 2"), list("7")), base(nil, nil))
	says(t, api.ErrScheme, c, l)
	isNone[api.Layout](t, api.ErrScheme)(place.Move(c, l, 0, 1, 0, 2))
	is(t, layout(base(list("2 / 1"), list("7")), base(nil, nil)))(place.Move(c, l, 0, 1, 0, 1))
	is(t, layout(base(list("1 / 2"), nil), base(nil, list("7"))))(place.Move(c, l, 1, 1, 0, 2))
}

// moves holds a move by the rule.
func moves(t *testing.T, c api.Catalog, l api.Layout, table, from, at, to int) {
	t.Helper()
	isWrong := func(n, count int) bool { return n < 0 || n >= count }
	switch {
	case isWrong(table, len(c.Tables)) || isWrong(from-1, len(l.Parts)) || isWrong(at, len(l.Parts[from-1].Tables[table])) || isWrong(to-1, len(l.Parts)):
		isNone[api.Layout](t, api.ErrArg)(place.Move(c, l, table, from, at, to))
	case len(c.Tables[table].Keys) > 0 && to != from:
		isNone[api.Layout](t, api.ErrScheme)(place.Move(c, l, table, from, at, to))
	default:
		is(t, moveByRule(l, table, from, at, to))(place.Move(c, l, table, from, at, to))
	}
}

// P17.4: each row of each table, to each node, one beyond on either side of all numbers among them.
func TestMoveByRule(t *testing.T) {
	for _, c := range catalogs() {
		for _, nodes := range counts {
			for _, spread := range [][]int{nil, {-1, -1, 0}} {
				l := layByRule(c, fullBase(c, 5), nodes, spread)
				for table := -1; table <= len(c.Tables); table++ {
					for from := range nodes + 2 {
						for at := -1; at < 6; at++ {
							for to := range nodes + 2 {
								moves(t, c, l, table, from, at, to)
							}
						}
					}
				}
			}
		}
	}
}

// P17.4: MaxTable rows at one node: each may go to a node that has none, and back; and stays, with Keys.
func TestMoveFull(t *testing.T) {
	c := cat(tab("u", "a int"), tab("t", "a int", 0))
	for _, nodes := range counts {
		l := bare(c, nodes)
		l.Parts[nodes-1].Tables[0] = counted(12)
		l.Parts[nodeByRule(c.Tables[1], one("5"), nodes)-1].Tables[1] = list("5 / 5 / 5 / 5 / 5 / 5 / 5 / 5 / 5 / 5 / 5 / 5")
		says(t, api.OK, c, l)
		for at := range 12 {
			for to := 1; to <= nodes; to++ {
				moves(t, c, l, 0, nodes, at, to)
				out, e := place.Move(c, l, 0, nodes, at, to)
				if e != api.OK {
					t.Fatal(e)
				}
				says(t, api.OK, c, out)
				moves(t, c, out, 0, to, len(out.Parts[to-1].Tables[0])-1, nodes)
				for from := range nodes {
					moves(t, c, l, 1, from+1, at, to)
				}
			}
		}
		moves(t, c, l, 0, nodes, 12, 1)
		moves(t, c, l, 0, nodes, 12, nodes)
	}
}

// P17.4: wrong numbers, of each kind alone, far ones and those at the ends of the range among them; beside the last right one.
func TestMoveWrong(t *testing.T) {
	c := cat(tab("u", "a int"), tab("t", "a int", 0), tab("v", "a int"))
	for _, nodes := range counts {
		l := bare(c, nodes)
		for node := range nodes {
			l.Parts[node].Tables[0] = counted(1 + node%2)
		}
		last := len(l.Parts[nodes-1].Tables[0]) - 1
		moves(t, c, l, 0, nodes, last, 1)
		moves(t, c, l, 0, 1, 0, nodes)
		for _, table := range append(nowhere(len(c.Tables)), 1, 2) {
			isNone[api.Layout](t, api.ErrArg)(place.Move(c, l, table, nodes, 0, 1))
		}
		for _, node := range append(nowhere(nodes+1), 0) {
			isNone[api.Layout](t, api.ErrArg)(place.Move(c, l, 0, node, 0, 1))
			isNone[api.Layout](t, api.ErrArg)(place.Move(c, l, 0, nodes, 0, node))
			isNone[api.Layout](t, api.ErrArg)(place.Move(c, l, 0, node, 0, node))
		}
		for _, at := range nowhere(last + 1) {
			for to := 1; to <= nodes; to++ {
				isNone[api.Layout](t, api.ErrArg)(place.Move(c, l, 0, nodes, at, to))
			}
		}
	}
}
