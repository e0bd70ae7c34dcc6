package bind_test

import (
	"math"
	"slices"
	"testing"

	"bowsprit/api"
	"bowsprit/bind"
)

// column is the expression of a column alone, laid without the program.
func column(n int) api.Expr {
	return api.Expr{Nodes: []api.ENode{{Tag: api.ECol, L: -1, R: -1, Col: n}}}
}

func isColumns(t *testing.T, c api.Catalog, places []int, want []int, err api.Errno) {
	t.Helper()
	if got, e := bind.Columns(c, places); e != err || !slices.Equal(got, want) {
		t.Errorf("%v: %v, %v, not %v, %v", places, got, e, want, err)
	}
	for _, s := range []api.BSelect{{Tables: places}, {Tables: places, Keys: []int{0, 1}, Aggs: make([]api.Agg, 3)}} {
		if n, m, e := bind.Widths(c, s); e != err || n != len(want) || m != len(want) {
			t.Errorf("%v: %v, %v, %v", s, n, m, e)
		}
		if s.Grouped = true; err == api.OK {
			isWidths(t, c, s, len(want), len(s.Keys)+len(s.Aggs), err)
		} else {
			isWidths(t, c, s, 0, 0, err)
		}
	}
}

func isWidths(t *testing.T, c api.Catalog, s api.BSelect, want, items int, err api.Errno) {
	t.Helper()
	if n, m, e := bind.Widths(c, s); e != err || n != want || m != items {
		t.Errorf("%v: %v, %v, %v, not %v, %v, %v", s, n, m, e, want, items, err)
	}
}

// P12.2: of no tables, of one, of several, of one twice; of places of no table, below 0 and beyond all.
func TestColumnsAndWidths(t *testing.T) {
	c := tables(t, few)
	kinds := [][]int{{api.VInt, api.VText}, {api.VInt}, {api.VBool, api.VInt, api.VText, api.VBool}, {api.VInt}}
	isColumns(t, c, nil, nil, api.OK)
	isColumns(t, c, []int{}, nil, api.OK)
	isColumns(t, api.Catalog{}, nil, nil, api.OK)
	for a, ofA := range kinds {
		isColumns(t, c, []int{a}, ofA, api.OK)
		for b, ofB := range kinds {
			isColumns(t, c, []int{a, b}, slices.Concat(ofA, ofB), api.OK)
			isColumns(t, c, []int{b, a, b, b}, slices.Concat(ofB, ofA, ofB, ofB), api.OK)
		}
		for _, none := range []int{-1, 4, 5, math.MinInt, math.MaxInt, 1<<32 + a} {
			isColumns(t, c, []int{none}, nil, api.ErrNone)
			isColumns(t, c, []int{a, none}, nil, api.ErrNone)
			isColumns(t, c, []int{none, a}, nil, api.ErrNone)
			isColumns(t, c, []int{a, a, none, a}, nil, api.ErrNone)
		}
		isColumns(t, api.Catalog{}, []int{a}, nil, api.ErrNone)
		isColumns(t, api.Catalog{Tables: c.Tables[:a]}, []int{a}, nil, api.ErrNone)
		isColumns(t, api.Catalog{Tables: c.Tables[a:]}, []int{0}, ofA, api.OK)
	}
	isColumns(t, c, slices.Repeat([]int{2}, 1000), slices.Repeat(kinds[2], 1000), api.OK)
	for _, none := range notCatalogs(t) {
		for _, places := range [][]int{nil, {0}, {1, 0}, {-1}, {4}} {
			isColumns(t, none, places, nil, api.ErrCatalog)
		}
	}
}

// P12.2: of what is bound, and of what is not.
func TestWidthsOfBound(t *testing.T) {
	c := tables(t, few)
	for text, want := range map[string][2]int{
		"SELECT a FROM t":                  {2, 2},
		"SELECT * FROM t JOIN v ON TRUE":   {6, 6},
		"SELECT COUNT(*) FROM t":           {2, 1},
		"SELECT 1 FROM u HAVING TRUE":      {1, 0},
		"SELECT 1 FROM v GROUP BY c, d, d": {4, 3},
		"SELECT SUM(d), MAX(d) FROM v":     {4, 2},
		"SELECT 1 FROM v HAVING MIN(c)":    {4, 1},
		"SELECT MIN(w), e FROM w JOIN v ON TRUE JOIN t ON a = d GROUP BY e HAVING COUNT(*) + MIN(w) > 1": {7, 3},
	} {
		b, _, e := bind.Bind(c, says(t, text))
		if e != api.OK {
			t.Fatal(text, e)
		}
		isWidths(t, c, b.Selects[0], want[0], want[1], api.OK)
	}
	isWidths(t, c, api.BSelect{Grouped: true}, 0, 0, api.OK)
	isWidths(t, c, api.BSelect{}, 0, 0, api.OK)
	isWidths(t, c, api.BSelect{Tables: []int{2}, Grouped: true, Keys: []int{99, -1}, Aggs: make([]api.Agg, 20), Items: make([]api.Expr, 9)}, 4, 22, api.OK)
}

// P12.2: whether a select groups, of texts.
func TestGrouped(t *testing.T) {
	for text, want := range map[string]bool{
		"SELECT a FROM t": false, "SELECT * FROM t": false, "SELECT DISTINCT -a, 1 + 2, NULL FROM t WHERE a = 1": false, "SELECT a FROM t JOIN u ON COUNT(*) = 1": false, "SELECT a FROM t WHERE SUM(a) = 1": false,
		"SELECT a FROM t GROUP BY a": true, "SELECT * FROM t GROUP BY zz": true, "SELECT a FROM t HAVING TRUE": true, "SELECT * FROM t HAVING 5": true, "SELECT a FROM zz HAVING zz": true,
		"SELECT COUNT(*) FROM t": true, "SELECT COUNT(a) FROM t": true, "SELECT SUM(a) FROM t": true, "SELECT MIN(a) FROM t": true, "SELECT MAX(a) FROM t": true,
		"SELECT a, b, 1 + (2 * MAX(a)) FROM t": true, "SELECT NOT COUNT(*) = 1 FROM t": true, "SELECT SUM(MIN(zz)) FROM zz": true,
	} {
		if got := bind.Grouped(says(t, text).Selects[0]); got != want {
			t.Error(text, got)
		}
	}
}

// P12.2: whether a select groups, of whatever one: each tag, nodes in no order, more than there may be.
func TestGroupedOfWhatever(t *testing.T) {
	held := func(s api.Select, want bool) {
		t.Helper()
		if bind.Grouped(s) != want {
			t.Errorf("%v: not %v", s, want)
		}
	}
	held(api.Select{}, false)
	held(api.Select{Star: true, Items: make([]api.Item, 9), Joins: make([]api.Join, 9), Group: []api.Name{}, Having: api.Tree{Nodes: []api.Node{}}}, false)
	held(api.Select{Group: make([]api.Name, 1)}, true)
	held(api.Select{Group: make([]api.Name, 1<<16)}, true)
	held(api.Select{Having: api.Tree{Nodes: make([]api.Node, 1)}}, true)
	held(api.Select{Having: api.Tree{Nodes: make([]api.Node, 1<<16)}}, true)
	held(api.Select{Where: api.Tree{Nodes: make([]api.Node, 1<<16)}}, false)
	groups := []int{api.NCountAll, api.NCount, api.NSum, api.NMin, api.NMax}
	for _, tag := range slices.Concat(sequence(-30, 60), []int{math.MinInt, math.MaxInt, 256 + api.NSum, 1<<32 + api.NCountAll, -api.NMax}) {
		want := slices.Contains(groups, tag)
		tree := api.Tree{Nodes: []api.Node{{}, {Tag: api.NName, L: 7}, {Tag: tag, L: -5, R: 99}, {}}}
		held(api.Select{Items: []api.Item{{Tree: tree}}}, want)
		held(api.Select{Star: true, Items: append(make([]api.Item, 9), api.Item{Tree: tree})}, want)
		held(api.Select{Where: tree, Joins: []api.Join{{On: tree}}}, false)
	}
}

func sequence(from, to int) []int {
	var l []int
	for n := from; n < to; n++ {
		l = append(l, n)
	}
	return l
}

// full is a bound query that has something in each field, made anew each time.
func full() api.Bound {
	one := func() api.BSelect {
		return api.BSelect{
			Tables: []int{2, 0}, Joins: []api.BJoin{{Left: true, On: column(1)}, {On: column(2)}}, Where: column(3), Having: column(4), Grouped: true, Distinct: true,
			Keys: []int{1, 0}, Aggs: []api.Agg{{Tag: api.AggSum, Arg: column(5)}, {Tag: api.AggAll}}, Items: []api.Expr{column(6), column(7)},
		}
	}
	return api.Bound{Selects: []api.BSelect{one(), one()}, Names: []string{"a", ""}, Kinds: []int{api.VInt, api.VText}, Order: []api.Ord{{Col: 1, Desc: true}, {Col: 0}}, Limit: 5}
}

// P12.3: what differs in one field is not the same.
func TestSame(t *testing.T) {
	ofSelect := map[string]func(*api.BSelect){
		"a table": func(s *api.BSelect) { s.Tables[1]++ }, "a table more": func(s *api.BSelect) { s.Tables = append(s.Tables, 0) }, "tables turned": func(s *api.BSelect) { slices.Reverse(s.Tables) }, "no tables": func(s *api.BSelect) { s.Tables = nil },
		"Left": func(s *api.BSelect) { s.Joins[0].Left = false }, "On": func(s *api.BSelect) { s.Joins[1].On = column(9) }, "no On": func(s *api.BSelect) { s.Joins[1].On = api.Expr{} }, "a join less": func(s *api.BSelect) { s.Joins = s.Joins[:1] }, "a join more": func(s *api.BSelect) { s.Joins = append(s.Joins, api.BJoin{}) },
		"Where": func(s *api.BSelect) { s.Where = column(4) }, "no Where": func(s *api.BSelect) { s.Where = api.Expr{} }, "Having": func(s *api.BSelect) { s.Having = column(3) }, "no Having": func(s *api.BSelect) { s.Having = api.Expr{} },
		"Where and Having": func(s *api.BSelect) { s.Where, s.Having = s.Having, s.Where }, "Grouped": func(s *api.BSelect) { s.Grouped = false }, "Distinct": func(s *api.BSelect) { s.Distinct = false },
		"a key": func(s *api.BSelect) { s.Keys[0] = 0 }, "a key more": func(s *api.BSelect) { s.Keys = append(s.Keys, 0) }, "no keys": func(s *api.BSelect) { s.Keys = nil },
		"an aggregate's Tag": func(s *api.BSelect) { s.Aggs[0].Tag = api.AggMin }, "an aggregate's Arg": func(s *api.BSelect) { s.Aggs[0].Arg = column(6) }, "Args": func(s *api.BSelect) { s.Aggs[1].Arg = column(5) }, "no aggregates": func(s *api.BSelect) { s.Aggs = nil }, "aggregates turned": func(s *api.BSelect) { slices.Reverse(s.Aggs) },
		"an item": func(s *api.BSelect) { s.Items[1] = column(6) }, "an item's place": func(s *api.BSelect) { s.Items[0].Nodes[0].L = 0 }, "an item's value": func(s *api.BSelect) { s.Items[0].Nodes[0].Value.N = 1 }, "an item less": func(s *api.BSelect) { s.Items = s.Items[:1] }, "an empty item more": func(s *api.BSelect) { s.Items = append(s.Items, api.Expr{}) },
	}
	apart := map[string]func(*api.Bound){
		"a select more": func(b *api.Bound) { b.Selects = append(b.Selects, api.BSelect{}) }, "a select less": func(b *api.Bound) { b.Selects = b.Selects[:1] }, "no selects": func(b *api.Bound) { b.Selects = nil },
		"a name": func(b *api.Bound) { b.Names[0] = "b" }, "a name for none": func(b *api.Bound) { b.Names[1] = "b" }, "a name less": func(b *api.Bound) { b.Names = b.Names[:1] }, "no names": func(b *api.Bound) { b.Names = nil },
		"a kind": func(b *api.Bound) { b.Kinds[1] = api.VNull }, "a kind more": func(b *api.Bound) { b.Kinds = append(b.Kinds, 0) },
		"Col": func(b *api.Bound) { b.Order[1].Col = 1 }, "Desc": func(b *api.Bound) { b.Order[1].Desc = true }, "an order less": func(b *api.Bound) { b.Order = b.Order[:1] }, "no order": func(b *api.Bound) { b.Order = nil }, "Limit": func(b *api.Bound) { b.Limit = -1 },
	}
	for what, change := range ofSelect {
		apart["the first select's "+what] = func(b *api.Bound) { change(&b.Selects[0]) }
		apart["the second select's "+what] = func(b *api.Bound) { change(&b.Selects[1]) }
	}
	for what, change := range apart {
		x := full()
		change(&x)
		if bind.Same(full(), x) || bind.Same(x, full()) {
			t.Error(what)
		}
		y := full()
		change(&y)
		if !bind.Same(x, y) || !bind.Same(x, x) {
			t.Error(what, "itself")
		}
	}
	if !bind.Same(full(), full()) || !bind.Same(api.Bound{}, api.Bound{}) || bind.Same(api.Bound{}, full()) {
		t.Error("all and nothing")
	}
	empty := api.Bound{Selects: []api.BSelect{{Tables: []int{}, Joins: []api.BJoin{}, Keys: []int{}, Aggs: []api.Agg{}, Items: []api.Expr{}, Where: api.Expr{Nodes: []api.ENode{}}}}, Names: []string{}, Kinds: []int{}, Order: []api.Ord{}}
	if !bind.Same(empty, api.Bound{Selects: make([]api.BSelect, 1)}) || bind.Same(empty, api.Bound{}) {
		t.Error("nothing")
	}
}
