package ast_test

import (
	"math"
	"slices"
	"strings"
	"testing"

	"bowsprit/api"
	"bowsprit/ast"
)

// least is a query with no more than it has to have.
func least() api.Query {
	return api.Query{Selects: []api.Select{{Star: true, From: api.Source{Table: "t"}}}, Limit: -1}
}

func equal(a, b api.Tree) api.Tree {
	return on(api.NEq, a, b)
}

// full is a query that has something in each field, made anew each time.
func full() api.Query {
	a, b := tree(named("a")), tree(column("x", "b"))
	one := func() api.Select {
		return api.Select{
			Distinct: true,
			Items:    []api.Item{{Tree: on(api.NAdd, a, b), As: "s"}, {Tree: on(api.NSum, a)}},
			From:     api.Source{Table: "t", As: "x"},
			Joins:    []api.Join{{Left: true, Source: api.Source{Table: "u", As: "y"}, On: equal(a, b)}, {Source: api.Source{Table: "v"}, On: tree(literal(api.Value{Kind: api.VBool, N: 1}))}},
			Where:    on(api.NLt, a, tree(number(5))),
			Group:    []api.Name{{Table: "x", Name: "b"}, {Name: "a"}},
			Having:   on(api.NIsNull, on(api.NMax, b)),
		}
	}
	return api.Query{Selects: []api.Select{one(), one()}, Keys: []api.Key{{Name: "s", Desc: true}, {Number: 2}}, Limit: 5}
}

// both are queries to begin with.
func both() []func() api.Query {
	return []func() api.Query{least, full}
}

func isQuery(t *testing.T, q api.Query) {
	t.Helper()
	if e := ast.Check(q); e != api.OK {
		t.Errorf("%v: %v", q, e)
	}
	if s, e := ast.Print(q); e != api.OK || s == "" {
		t.Errorf("%v is written %q, %v", q, s, e)
	}
}

func isNoQuery(t *testing.T, q api.Query) {
	t.Helper()
	if e := ast.Check(q); e != api.ErrAst {
		t.Errorf("%v: %v", q, e)
	}
	if s, e := ast.Print(q); e != api.ErrAst || s != "" {
		t.Errorf("%v is written %q, %v", q, s, e)
	}
}

// each tries a change at each select of a query, one at a time.
func each(held func(*testing.T, api.Query), t *testing.T, change func(*api.Select)) {
	t.Helper()
	for _, begin := range both() {
		for k := range begin().Selects {
			q := begin()
			change(&q.Selects[k])
			held(t, q)
		}
	}
}

// P8.1: queries that may be, with all that there may be, and with none of it.
func TestQueries(t *testing.T) {
	isQuery(t, least())
	isQuery(t, full())
	isNoQuery(t, api.Query{})
	isNoQuery(t, api.Query{Limit: -1})
	isNoQuery(t, api.Query{Selects: []api.Select{}, Limit: -1})
	isNoQuery(t, api.Query{Selects: []api.Select{{}}, Limit: -1})
}

// P8.1: 3 selects and one more; 3 keys and one more.
func TestHowManySelectsAndKeys(t *testing.T) {
	for count := range 8 {
		q := least()
		q.Selects = slices.Repeat(q.Selects, count)
		if count >= 1 && count <= api.MaxSelects {
			isQuery(t, q)
		} else {
			isNoQuery(t, q)
		}
		q = full()
		q.Keys = slices.Repeat([]api.Key{{Name: "a"}}, count)
		if count <= api.MaxKeys {
			isQuery(t, q)
		} else {
			isNoQuery(t, q)
		}
	}
}

// P8.1: one select that may not be, at each place.
func TestEachSelectCounts(t *testing.T) {
	for k := range api.MaxSelects {
		q := least()
		q.Selects = slices.Repeat(q.Selects, api.MaxSelects)
		isQuery(t, q)
		q.Selects[k].Star = false
		isNoQuery(t, q)
	}
}

// P8.1: a star and items: one of both, and 6 items, and one more.
func TestStarAndItems(t *testing.T) {
	item := api.Item{Tree: tree(named("a"))}
	for count := range 10 {
		items := slices.Repeat([]api.Item{item}, count)
		starred := func(s *api.Select) { s.Star, s.Items = true, items }
		bare := func(s *api.Select) { s.Star, s.Items = false, items }
		if count == 0 {
			each(isQuery, t, starred)
		} else {
			each(isNoQuery, t, starred)
		}
		if count >= 1 && count <= api.MaxItems {
			each(isQuery, t, bare)
		} else {
			each(isNoQuery, t, bare)
		}
	}
	each(isQuery, t, func(s *api.Select) { s.Star, s.Items = true, nil })
	each(isNoQuery, t, func(s *api.Select) { s.Star, s.Items = false, nil })
}

// wrongTrees are trees that may not be, of one kind each.
func wrongTrees() []api.Tree {
	a := named("a")
	return []api.Tree{tree(a, a), tree(leaf(0)), tree(node(api.NNeg, 0, -1)), tree(number(-1)), tree(text("\n")), tree(named("")), tree(named("A")), tree(column("T", "a")), wide(api.MaxNodes + 1), chain(api.MaxDepth + 1)}
}

// P8.1: each item's tree, and what it is to be called.
func TestItems(t *testing.T) {
	for place := range 3 {
		put := func(i api.Item) func(*api.Select) {
			return func(s *api.Select) {
				s.Star, s.Items = false, slices.Repeat([]api.Item{{Tree: tree(number(1))}}, 3)
				s.Items[place] = i
			}
		}
		for _, x := range append(parts(), wide(api.MaxNodes), chain(api.MaxDepth)) {
			each(isQuery, t, put(api.Item{Tree: x}))
			each(isQuery, t, put(api.Item{Tree: x, As: "s"}))
		}
		for _, x := range append(wrongTrees(), api.Tree{}) {
			each(isNoQuery, t, put(api.Item{Tree: x}))
		}
		for _, s := range goodNames() {
			each(isQuery, t, put(api.Item{Tree: tree(number(1)), As: s}))
		}
		for _, s := range badNames() {
			each(isNoQuery, t, put(api.Item{Tree: tree(number(1)), As: s}))
		}
	}
}

// P8.1: sources, of a select and of a join: Table is a name, As one or nothing.
func TestSources(t *testing.T) {
	for _, put := range []func(*api.Select, api.Source){
		func(s *api.Select, from api.Source) { s.From = from },
		func(s *api.Select, from api.Source) {
			s.Joins = []api.Join{{Source: from, On: tree(named("a"))}}
		},
		func(s *api.Select, from api.Source) {
			s.Joins = []api.Join{{Source: api.Source{Table: "t"}, On: tree(named("a"))}, {Left: true, Source: from, On: tree(named("a"))}}
		},
	} {
		held := func(check func(*testing.T, api.Query), from api.Source) {
			each(check, t, func(s *api.Select) { put(s, from) })
		}
		for _, s := range goodNames() {
			held(isQuery, api.Source{Table: s})
			held(isQuery, api.Source{Table: s, As: "x"})
			held(isQuery, api.Source{Table: "t", As: s})
		}
		for _, s := range badNames() {
			held(isNoQuery, api.Source{Table: s})
			held(isNoQuery, api.Source{Table: s, As: "x"})
			held(isNoQuery, api.Source{Table: "t", As: s})
		}
		held(isNoQuery, api.Source{})
		held(isNoQuery, api.Source{As: "x"})
	}
}

// P8.1: 2 joins and one more, LEFT or not; On has to be there.
func TestJoins(t *testing.T) {
	join := api.Join{Source: api.Source{Table: "u"}, On: tree(named("a"))}
	for count := range 6 {
		for _, left := range []bool{false, true} {
			join.Left = left
			joins := slices.Repeat([]api.Join{join}, count)
			if count <= api.MaxJoins {
				each(isQuery, t, func(s *api.Select) { s.Joins = joins })
			} else {
				each(isNoQuery, t, func(s *api.Select) { s.Joins = joins })
			}
		}
	}
	for place := range api.MaxJoins {
		put := func(x api.Tree) func(*api.Select) {
			return func(s *api.Select) {
				s.Joins = slices.Repeat([]api.Join{join}, api.MaxJoins)
				s.Joins[place].On = x
			}
		}
		for _, x := range parts() {
			each(isQuery, t, put(x))
		}
		for _, x := range append(wrongTrees(), api.Tree{}) {
			each(isNoQuery, t, put(x))
		}
	}
}

// P8.1: Where and Having may have no nodes; if they have some, they may be.
func TestWhereAndHaving(t *testing.T) {
	for _, put := range []func(*api.Select, api.Tree){
		func(s *api.Select, x api.Tree) { s.Where = x },
		func(s *api.Select, x api.Tree) { s.Having = x },
	} {
		for _, x := range append(parts(), api.Tree{}, api.Tree{Nodes: []api.Node{}}, wide(api.MaxNodes), chain(api.MaxDepth)) {
			each(isQuery, t, func(s *api.Select) { put(s, x) })
		}
		for _, x := range wrongTrees() {
			each(isNoQuery, t, func(s *api.Select) { put(s, x) })
		}
	}
}

// P8.1: 3 names in Group and one more; what is a name there, and what is none.
func TestGroup(t *testing.T) {
	for count := range 7 {
		group := slices.Repeat([]api.Name{{Name: "a"}}, count)
		if count <= api.MaxNames {
			each(isQuery, t, func(s *api.Select) { s.Group = group })
		} else {
			each(isNoQuery, t, func(s *api.Select) { s.Group = group })
		}
	}
	for place := range api.MaxNames {
		held := func(check func(*testing.T, api.Query), n api.Name) {
			each(check, t, func(s *api.Select) {
				s.Group = slices.Repeat([]api.Name{{Name: "a"}}, api.MaxNames)
				s.Group[place] = n
			})
		}
		for _, s := range goodNames() {
			held(isQuery, api.Name{Name: s})
			held(isQuery, api.Name{Table: "t", Name: s})
			held(isQuery, api.Name{Table: s, Name: "a"})
		}
		for _, s := range badNames() {
			held(isNoQuery, api.Name{Name: s})
			held(isNoQuery, api.Name{Table: "t", Name: s})
			held(isNoQuery, api.Name{Table: s, Name: "a"})
		}
		held(isNoQuery, api.Name{})
		held(isNoQuery, api.Name{Table: "t"})
	}
}

// P8.1: a key of a name, a key of a number, from 0 on to 2^31 - 1, and one of both.
func TestKeys(t *testing.T) {
	for place := range api.MaxKeys {
		for _, desc := range []bool{false, true} {
			held := func(check func(*testing.T, api.Query), k api.Key) {
				k.Desc = desc
				for _, begin := range both() {
					q := begin()
					q.Keys = slices.Repeat([]api.Key{{Name: "a"}}, api.MaxKeys)
					q.Keys[place] = k
					check(t, q)
				}
			}
			for _, n := range []int{0, 1, 6, 7, math.MaxInt32 - 1, math.MaxInt32} {
				held(isQuery, api.Key{Number: n})
			}
			for _, n := range []int{-1, -2, math.MaxInt32 + 1, 1 << 32, math.MaxInt, math.MinInt} {
				held(isNoQuery, api.Key{Number: n})
				held(isNoQuery, api.Key{Name: "a", Number: n})
			}
			held(isNoQuery, api.Key{Name: "a", Number: 1})
			held(isNoQuery, api.Key{Name: "a", Number: math.MaxInt32})
			for _, s := range goodNames() {
				held(isQuery, api.Key{Name: s})
			}
			for _, s := range badNames() {
				held(isNoQuery, api.Key{Name: s})
				held(isNoQuery, api.Key{Name: s, Number: 1})
			}
		}
	}
}

// P8.1: Limit from -1 to 2^31 - 1.
func TestLimit(t *testing.T) {
	for _, begin := range both() {
		q := begin()
		for _, n := range []int{-1, 0, 1, 5, math.MaxInt32 - 1, math.MaxInt32} {
			q.Limit = n
			isQuery(t, q)
		}
		for _, n := range []int{-2, -3, math.MaxInt32 + 1, 1 << 32, math.MaxInt, math.MinInt} {
			q.Limit = n
			isNoQuery(t, q)
		}
	}
}

// changes change a query that has something in each field into another one that may be, each in one field.
func changes() []func(*api.Query) {
	return []func(*api.Query){
		func(q *api.Query) {},
		func(q *api.Query) { q.Limit = -1 },
		func(q *api.Query) { q.Limit = 0 },
		func(q *api.Query) { q.Limit = 6 },
		func(q *api.Query) { q.Keys = nil },
		func(q *api.Query) { q.Keys = q.Keys[:1] },
		func(q *api.Query) { q.Keys[0].Name = "a" },
		func(q *api.Query) { q.Keys[0].Desc = false },
		func(q *api.Query) { q.Keys[1].Desc = true },
		func(q *api.Query) { q.Keys[1].Number = 0 },
		func(q *api.Query) { q.Keys[1].Number = 1 },
		func(q *api.Query) { q.Keys[0], q.Keys[1] = q.Keys[1], q.Keys[0] },
		func(q *api.Query) { q.Selects = q.Selects[:1] },
		func(q *api.Query) { q.Selects = slices.Concat(q.Selects, q.Selects[:1]) },
		func(q *api.Query) { q.Selects[0].Distinct = false },
		func(q *api.Query) { q.Selects[1].Distinct = false },
		func(q *api.Query) { q.Selects[0].Star, q.Selects[0].Items = true, nil },
		func(q *api.Query) { q.Selects[0].Items = q.Selects[0].Items[:1] },
		func(q *api.Query) { q.Selects[0].Items[0].As = "" },
		func(q *api.Query) { q.Selects[0].Items[0].As = "z" },
		func(q *api.Query) { q.Selects[0].Items[1].As = "s" },
		func(q *api.Query) { q.Selects[0].Items[1].Tree = tree(leaf(api.NCountAll)) },
		func(q *api.Query) { q.Selects[0].From.Table = "a" },
		func(q *api.Query) { q.Selects[0].From.As = "" },
		func(q *api.Query) { q.Selects[0].From.As = "y" },
		func(q *api.Query) { q.Selects[0].Joins = nil },
		func(q *api.Query) { q.Selects[0].Joins = q.Selects[0].Joins[:1] },
		func(q *api.Query) { q.Selects[0].Joins = q.Selects[0].Joins[1:] },
		func(q *api.Query) { q.Selects[0].Joins[0].Left = false },
		func(q *api.Query) { q.Selects[0].Joins[1].Left = true },
		func(q *api.Query) { q.Selects[0].Joins[0].Source.Table = "a" },
		func(q *api.Query) { q.Selects[0].Joins[0].Source.As = "" },
		func(q *api.Query) { q.Selects[0].Joins[1].Source.As = "a" },
		func(q *api.Query) { q.Selects[0].Joins[0].On = tree(named("a")) },
		func(q *api.Query) { q.Selects[0].Where = api.Tree{} },
		func(q *api.Query) { q.Selects[0].Where = tree(named("a")) },
		func(q *api.Query) { q.Selects[0].Having = api.Tree{} },
		func(q *api.Query) { q.Selects[0].Having = tree(named("a")) },
		func(q *api.Query) {
			q.Selects[0].Where, q.Selects[0].Having = q.Selects[0].Having, q.Selects[0].Where
		},
		func(q *api.Query) { q.Selects[0].Group = nil },
		func(q *api.Query) { q.Selects[0].Group = q.Selects[0].Group[:1] },
		func(q *api.Query) { q.Selects[0].Group[0].Table = "" },
		func(q *api.Query) { q.Selects[0].Group[0].Table = "b" },
		func(q *api.Query) { q.Selects[0].Group[1].Name = "b" },
		func(q *api.Query) { q.Selects[0].Group[1].Table = "x" },
	}
}

// P8.1, P8.5: each change of one field makes another query, which is written unlike all others.
func TestSameAndUnlike(t *testing.T) {
	l := changes()
	written := map[string]int{}
	for i, change := range l {
		a := full()
		change(&a)
		isQuery(t, a)
		s, _ := ast.Print(a)
		if other, there := written[s]; there {
			t.Errorf("%d and %d are both %s", i, other, s)
		}
		written[s] = i
		for j, change := range l {
			b := full()
			change(&b)
			if got := ast.Same(a, b); got != (i == j) {
				t.Errorf("%d and %d: %v", i, j, got)
			}
		}
	}
}

// P8.1: nil and empty lists are one; of what may not be each field counts as well.
func TestSameOfLists(t *testing.T) {
	empty := func() api.Query {
		q := least()
		s := &q.Selects[0]
		s.Items, s.Joins, s.Group, s.Where.Nodes, s.Having.Nodes = []api.Item{}, []api.Join{}, []api.Name{}, []api.Node{}, []api.Node{}
		q.Keys = make([]api.Key, 0, 3)
		return q
	}
	if !ast.Same(least(), empty()) || !ast.Same(empty(), least()) || !ast.Same(api.Query{}, api.Query{Selects: []api.Select{}}) {
		t.Error("an empty list is not nil")
	}
	isQuery(t, empty())
	odd := func() api.Query {
		return api.Query{Selects: []api.Select{{Star: true, Items: []api.Item{{As: "A"}}, Joins: make([]api.Join, 5)}}, Limit: -7}
	}
	if !ast.Same(odd(), odd()) || ast.Same(odd(), least()) {
		t.Error("queries that may not be are not themselves, or another one")
	}
	other := odd()
	other.Selects[0].Items[0].As = "B"
	starless := odd()
	starless.Selects[0].Star = false
	if ast.Same(odd(), other) || ast.Same(other, odd()) || ast.Same(odd(), starless) || ast.Same(starless, odd()) {
		t.Error("queries that may not be, and are apart, are the same")
	}
	if ast.Same(api.Query{}, api.Query{Limit: -1}) || ast.Same(api.Query{}, api.Query{Selects: []api.Select{{}}}) || ast.Same(api.Query{}, api.Query{Keys: []api.Key{{}}}) {
		t.Error("zero queries")
	}
}

// R3: what is handed in stays as it is.
func TestQueriesStayAsTheyAre(t *testing.T) {
	q := full()
	ast.Check(q)
	ast.Print(q)
	ast.Same(q, q)
	if !ast.Same(q, full()) {
		t.Error(q)
	}
}

// R1: what is far too long is refused as all else is.
func TestFarTooMuch(t *testing.T) {
	q := least()
	q.Selects = slices.Repeat(q.Selects, 1<<16)
	isRefusedQuery(t, q)
	q = least()
	q.Keys = make([]api.Key, 1<<20)
	isRefusedQuery(t, q)
	q = least()
	q.Selects[0].Group = slices.Repeat([]api.Name{{Name: "a"}}, 1<<20)
	isRefusedQuery(t, q)
	q = least()
	q.Selects[0].From.As = strings.Repeat("a", 1<<22)
	isRefusedQuery(t, q)
}

// isRefusedQuery does not tell the query: it is long.
func isRefusedQuery(t *testing.T, q api.Query) {
	t.Helper()
	s, e := ast.Print(q)
	if c := ast.Check(q); c != api.ErrAst || e != api.ErrAst || s != "" {
		t.Error(c, e, len(s))
	}
}
