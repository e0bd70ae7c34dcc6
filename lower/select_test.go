package lower_test

import (
	"math"
	"slices"
	"testing"

	"bowsprit/api"
	"bowsprit/lower"
)

// P14.1, P14.2, P14.3: the chapter's examples, node by node.
func TestExamples(t *testing.T) {
	c := tables(t, "table t a int b text\ntable u a int\n")
	a := project(col(0))
	held := func(text string, want api.Logic, names ...string) {
		t.Helper()
		got, at, e := lower.Query(c, text)
		if at != 0 || !slices.Equal(got.Names, names) {
			t.Error(text, at, got.Names)
		}
		isTree(t, want)(got.Logic, e)
	}
	held("SELECT b FROM t WHERE a = 1", tree(sortBy(-1), tree(project(col(1)), tree(filter(on(api.NEq, col(0), num(1))), scanT()))), "b")
	joined := tree(join(false, on(api.NEq, col(0), col(2))), scanT(), scanU())
	held("SELECT COUNT(*) FROM t JOIN u ON t.a = u.a", tree(sortBy(-1), tree(a, tree(group(nil, agg(api.AggAll)), joined))), "")
	held("SELECT 1 FROM t HAVING TRUE", tree(sortBy(-1), tree(project(num(1)), tree(filter(lit(yes)), tree(group(nil, agg(api.AggAll)), scanT())))), "")
	held("SELECT a FROM t UNION ALL SELECT a FROM u LIMIT 2", tree(sortBy(2), tree(union(), tree(a, scanT()), tree(a, scanU()))), "a")
}

// P14.1: each table, by its place, with its columns' kinds; and places that are none.
func TestPlacesOfTables(t *testing.T) {
	c := tables(t, few)
	for place, l := range scans() {
		lowers(t, c, from(place, num(1)), tree(project(num(1)), l))
	}
	wrong := []int{-1, -2, 4, 5, math.MaxInt, math.MinInt, 1 << 32}
	for _, place := range wrong {
		refuses(t, c, from(place, num(1)))
		for k := range 3 {
			s := api.BSelect{Tables: []int{0, 1, 2}, Joins: slices.Repeat([]api.BJoin{{On: lit(yes)}}, 2), Items: []api.Expr{num(1)}}
			s.Tables[k] = place
			refuses(t, c, s)
		}
	}
	for count := range 5 {
		fewer := api.Catalog{Tables: c.Tables[:count]}
		for place := range 5 {
			if place < count {
				lowers(t, fewer, from(place, num(1)), tree(project(num(1)), scans()[place]))
			} else {
				refuses(t, fewer, from(place, num(1)))
			}
		}
	}
}

// P14.1: none, one, two, three tables and more, with as many joins as there should be, fewer and more; left and not, in each order.
func TestJoins(t *testing.T) {
	c := tables(t, few)
	conds := []api.Expr{on(api.NEq, col(0), num(5)), on(api.NIsNull, col(2))}
	for count := range api.MaxJoins + 4 {
		for joins := range api.MaxJoins + 4 {
			for lefts := range 4 {
				s := api.BSelect{Items: []api.Expr{col(0)}}
				for k := range count {
					s.Tables = append(s.Tables, []int{1, 0, 3}[k%3])
				}
				for k := range joins {
					s.Joins = append(s.Joins, api.BJoin{Left: lefts>>(k%2)&1 == 1, On: conds[k%2]})
				}
				if joins != count-1 || count > api.MaxJoins+1 {
					refuses(t, c, s)
					continue
				}
				l := scanU()
				for k, j := range s.Joins {
					l = tree(join(j.Left, j.On), l, []api.Logic{scanT(), scanW()}[k])
				}
				lowers(t, c, s, tree(project(col(0)), l))
			}
		}
	}
	refuses(t, c, api.BSelect{Tables: make([]int, 1<<16), Joins: slices.Repeat([]api.BJoin{{On: lit(yes)}}, 1<<16-1), Items: []api.Expr{num(1)}})
	refuses(t, c, api.BSelect{})
}

// P14.1: a table joined with itself; each join's condition is over the columns so far, and the last one's over all.
func TestOnSoFar(t *testing.T) {
	c := tables(t, few)
	is := func(n int) api.Expr { return on(api.NIsNull, col(n)) }
	for first := range 14 {
		for second := range 14 {
			s := api.BSelect{Tables: []int{2, 2, 3}, Joins: []api.BJoin{{On: is(first)}, {Left: true, On: is(second)}}, Items: []api.Expr{col(11)}}
			if first < 8 && second < 12 {
				lowers(t, c, s, tree(project(col(11)), tree(join(true, is(second)), tree(join(false, is(first)), scanV(), scanV()), scanW())))
			} else {
				refuses(t, c, s)
			}
		}
	}
}

// P14.1: conditions that are truths, null, and such as may not stand there, at each place where one may.
func TestConditions(t *testing.T) {
	c := tables(t, few)
	none := api.Expr{Nodes: []api.ENode{}}
	at := func(x api.Expr) []api.BSelect {
		items := []api.Expr{num(1)}
		return []api.BSelect{
			{Tables: []int{2, 2}, Joins: []api.BJoin{{On: x}}, Items: items},
			{Tables: []int{2, 2}, Joins: []api.BJoin{{Left: true, On: x}}, Items: items},
			{Tables: []int{2}, Where: x, Items: items},
			{Tables: []int{2}, Grouped: true, Keys: []int{0, 1, 2}, Having: x, Items: items},
		}
	}
	for _, x := range []api.Expr{lit(yes), lit(no), lit(null), col(0), on(api.NEq, col(1), num(5)), on(api.NAnd, col(0), on(api.NLt, col(2), lit(text("a")))), on(api.NEq, on(api.NDiv, num(1), num(0)), col(1))} {
		l := at(x)
		lowers(t, c, l[0], tree(project(num(1)), tree(join(false, x), scanV(), scanV())))
		lowers(t, c, l[1], tree(project(num(1)), tree(join(true, x), scanV(), scanV())))
		lowers(t, c, l[2], tree(project(num(1)), tree(filter(x), scanV())))
		lowers(t, c, l[3], tree(project(num(1)), tree(filter(x), tree(group([]int{0, 1, 2}), scanV()))))
	}
	for _, x := range noTruths() {
		for _, s := range at(x) {
			refuses(t, c, s)
		}
	}
	for _, x := range []api.Expr{{}, none} {
		l := at(x)
		refuses(t, c, l[0])
		refuses(t, c, l[1])
		lowers(t, c, l[2], tree(project(num(1)), scanV()))
		lowers(t, c, l[3], tree(project(num(1)), tree(group([]int{0, 1, 2}), scanV())))
	}
}

// P14.1: conditions ask for the columns that are there: Where for the tables' ones, Having for the group's.
func TestColumnsOfConditions(t *testing.T) {
	c := tables(t, few)
	for n := range 6 {
		x := on(api.NIsNull, col(n))
		where := api.BSelect{Tables: []int{1, 0}, Joins: []api.BJoin{{On: lit(null)}}, Where: x, Items: []api.Expr{num(1)}}
		if n < 3 {
			lowers(t, c, where, tree(project(num(1)), tree(filter(x), tree(join(false, lit(null)), scanU(), scanT()))))
		} else {
			refuses(t, c, where)
		}
		for keys := range 3 {
			having := api.BSelect{Tables: []int{3}, Grouped: true, Keys: []int{3, 2}[:keys], Aggs: []api.Agg{agg(api.AggMin, col(1))}, Having: x, Items: []api.Expr{num(1)}}
			if n <= keys {
				lowers(t, c, having, tree(project(num(1)), tree(filter(x), tree(group([]int{3, 2}[:keys], agg(api.AggMin, col(1))), scanW()))))
			} else {
				refuses(t, c, having)
			}
		}
	}
}

// aggs are as many aggregates, unlike one another, over columns of VInt.
func aggs(count int) []api.Agg {
	var l []api.Agg
	for k := range count {
		l = append(l, agg(api.AggCount+k%4, on(api.NAdd, col(k%2), num(int64(k)))))
	}
	return l
}

// P14.1: groups by keys, by aggregates, by both, by neither; with Having and without, with Where and without; and all that where nothing is grouped.
func TestGroups(t *testing.T) {
	c := tables(t, few)
	x, y := on(api.NIsNull, col(0)), on(api.NEq, col(1), num(2))
	for keys := range api.MaxNames + 2 {
		for count := range api.MaxAggs + 2 {
			for parts := range 8 {
				s := api.BSelect{Tables: []int{3}, Grouped: parts&1 == 1, Items: []api.Expr{num(1), col(0)}}
				l := scanW()
				if parts&2 > 0 {
					s.Where = y
					l = tree(filter(y), l)
				}
				for k := range keys {
					s.Keys = append(s.Keys, []int{3, 0, 3}[k%3])
				}
				s.Aggs = aggs(count)
				if s.Grouped && keys+count == 0 {
					l = tree(group(nil, agg(api.AggAll)), l)
				} else if s.Grouped {
					l = tree(group(s.Keys, s.Aggs...), l)
				}
				if parts&4 > 0 {
					s.Having = x
					l = tree(filter(x), l)
				}
				if keys > api.MaxNames || count > api.MaxAggs || !s.Grouped && keys+count+len(s.Having.Nodes) > 0 {
					refuses(t, c, s)
				} else {
					lowers(t, c, s, tree(project(num(1), col(0)), l))
				}
			}
		}
	}
}

// P14.1: of nothing but empty lists a select may be grouped or not.
func TestEmptyLists(t *testing.T) {
	c := tables(t, few)
	none := api.Expr{Nodes: []api.ENode{}}
	s := api.BSelect{Tables: []int{1}, Joins: []api.BJoin{}, Where: none, Having: none, Keys: []int{}, Aggs: []api.Agg{}, Items: []api.Expr{col(0)}}
	lowers(t, c, s, tree(project(col(0)), scanU()))
	s.Grouped = true
	lowers(t, c, s, tree(project(col(0)), tree(group(nil, agg(api.AggAll)), scanU())))
	s.Grouped, s.Aggs = false, []api.Agg{{}}
	refuses(t, c, s)
	s.Grouped = true
	refuses(t, c, s)
	s.Aggs = []api.Agg{agg(api.AggAll, none)}
	lowers(t, c, s, tree(project(col(0)), tree(group(nil, agg(api.AggAll)), scanU())))
	s.Tables = []int{}
	refuses(t, c, s)
}

// P14.1: keys and aggregates that may not be, over columns that are not there.
func TestWrongGroups(t *testing.T) {
	c := tables(t, few)
	for _, k := range []int{-1, 2, 3, 16, math.MaxInt, math.MinInt} {
		refuses(t, c, api.BSelect{Tables: []int{0}, Grouped: true, Keys: []int{k}, Items: []api.Expr{num(1)}})
		refuses(t, c, api.BSelect{Tables: []int{0}, Grouped: true, Keys: []int{0, 1, k}, Aggs: aggs(1)[:0], Items: []api.Expr{num(1)}})
	}
	for _, a := range []api.Agg{{}, agg(api.AggAll, col(0)), agg(api.AggCount), agg(api.AggSum, col(1)), agg(api.AggSum), agg(api.AggMax + 1), agg(api.AggMin, col(2)), agg(-1, col(0)), agg(api.AggMax, on(api.NNeg, col(1)))} {
		refuses(t, c, api.BSelect{Tables: []int{0}, Grouped: true, Aggs: []api.Agg{a}, Items: []api.Expr{num(1)}})
		refuses(t, c, api.BSelect{Tables: []int{0}, Grouped: true, Keys: []int{1}, Aggs: []api.Agg{agg(api.AggAll), a}, Items: []api.Expr{num(1)}})
	}
	lowers(t, c, api.BSelect{Tables: []int{0}, Grouped: true, Keys: []int{1}, Aggs: []api.Agg{agg(api.AggMax, col(1))}, Items: []api.Expr{col(1)}}, tree(project(col(1)), tree(group([]int{1}, agg(api.AggMax, col(1))), scanT())))
}

// P14.1: items, none, one, as many as there may be, and one more; distinct and not; of columns that are there.
func TestItems(t *testing.T) {
	c := tables(t, few)
	l := []api.Expr{col(1), num(5), lit(null), on(api.NEq, col(0), num(1)), lit(text("x")), on(api.NDiv, col(0), num(0))}
	for count := range api.MaxWidth + 3 {
		for _, d := range []bool{false, true} {
			s := api.BSelect{Tables: []int{0}, Distinct: d}
			for k := range count {
				s.Items = append(s.Items, l[k%len(l)])
			}
			want := tree(project(s.Items...), scanT())
			if d {
				want = tree(distinct(), want)
			}
			if 1 <= count && count <= api.MaxWidth {
				lowers(t, c, s, want)
			} else {
				refuses(t, c, s)
			}
		}
	}
	for _, x := range []api.Expr{{}, exprOf(api.ENode{}), col(2), col(-1), on(api.NNeg, col(1)), on(api.NAdd, col(0), col(2)), {Nodes: slices.Repeat(lit(yes).Nodes, 2)}} {
		refuses(t, c, from(0, x))
		refuses(t, c, from(0, num(1), x, num(1)))
	}
	refuses(t, c, from(0, slices.Repeat([]api.Expr{num(1)}, 1<<16)...))
	grouped := api.BSelect{Tables: []int{0}, Grouped: true, Keys: []int{1}, Items: []api.Expr{col(0)}}
	lowers(t, c, grouped, tree(project(col(0)), tree(group([]int{1}), scanT())))
	grouped.Items = []api.Expr{col(1)}
	refuses(t, c, grouped)
}

// P14.1: all that a select may have, at once.
func TestAllOfSelect(t *testing.T) {
	c := tables(t, few)
	on1, on2, where, having := on(api.NEq, col(0), col(3)), on(api.NIsNull, col(6)), on(api.NLt, col(1), lit(text("b"))), on(api.NNe, col(1), num(3))
	s := api.BSelect{
		Tables: []int{0, 2, 3}, Joins: []api.BJoin{{Left: true, On: on1}, {On: on2}}, Where: where, Having: having, Grouped: true, Distinct: true,
		Keys: []int{4, 9}, Aggs: []api.Agg{agg(api.AggAll), agg(api.AggSum, col(9))}, Items: []api.Expr{col(3), col(0), lit(null)},
	}
	joined := tree(join(false, on2), tree(join(true, on1), scanT(), scanV()), scanW())
	grouped := tree(filter(having), tree(group([]int{4, 9}, agg(api.AggAll), agg(api.AggSum, col(9))), tree(filter(where), joined)))
	lowers(t, c, s, tree(distinct(), tree(project(col(3), col(0), lit(null)), grouped)))
}
