package lower_test

import (
	"math/rand"
	"slices"
	"testing"

	"bowsprit/api"
	"bowsprit/bind"
	"bowsprit/logic"
	"bowsprit/lower"
	"bowsprit/parse"
)

// scanned is a table's scan, by a catalog.
func scanned(c api.Catalog, place int) api.Logic {
	n := scan(place)
	for _, column := range c.Tables[place].Columns {
		n.Kinds = append(n.Kinds, column.Kind)
	}
	return tree(n)
}

// selectByRule is a select's tree, reckoned apart from the program.
func selectByRule(c api.Catalog, s api.BSelect) (api.Logic, bool) {
	none := api.Logic{}
	if len(s.Tables) < 1 || len(s.Tables) > 3 || len(s.Joins)+1 != len(s.Tables) || slices.Min(s.Tables) < 0 || slices.Max(s.Tables) >= len(c.Tables) {
		return none, false
	}
	l := scanned(c, s.Tables[0])
	for k, j := range s.Joins {
		l = tree(join(j.Left, j.On), l, scanned(c, s.Tables[k+1]))
	}
	if len(s.Where.Nodes) > 0 {
		l = tree(filter(s.Where), l)
	}
	switch n := group(s.Keys, s.Aggs...); {
	case s.Grouped && len(s.Keys) == 0 && len(s.Aggs) == 0:
		l = tree(group(nil, agg(api.AggAll)), l)
	case s.Grouped:
		l = tree(n, l)
	case len(s.Keys) > 0 || len(s.Aggs) > 0 || len(s.Having.Nodes) > 0:
		return none, false
	}
	if len(s.Having.Nodes) > 0 {
		l = tree(filter(s.Having), l)
	}
	l = tree(project(s.Items...), l)
	if s.Distinct {
		l = tree(distinct(), l)
	}
	_, e := logic.Check(l)
	return l, e == api.OK
}

// byRule is a query's tree, reckoned so.
func byRule(c api.Catalog, b api.Bound) (api.Logic, bool) {
	var all api.Logic
	if len(b.Selects) < 1 || len(b.Selects) > 3 {
		return all, false
	}
	for k, s := range b.Selects {
		l, ok := selectByRule(c, s)
		if !ok {
			return all, false
		}
		if k > 0 {
			l = tree(union(), all, l)
		}
		all = l
	}
	all = tree(sortBy(b.Limit, b.Order...), all)
	kinds, e := logic.Kinds(all)
	return all, e == api.OK && slices.Equal(kinds, b.Kinds) && len(kinds) == len(b.Names)
}

// follow holds all that follows of a bound query: it can be lowered, to its kinds; its selects' trees stand in it, and no table is scanned but theirs.
func follow(t *testing.T, c api.Catalog, b api.Bound) {
	t.Helper()
	want, ok := byRule(c, b)
	if !ok {
		t.Errorf("%v may not be, by the rule", b)
	}
	isTree(t, want)(lower.Lower(c, b))
	got, _ := lower.Lower(c, b)
	if !slices.Equal(kindsOf(got), b.Kinds) {
		t.Errorf("%v, not %v", kindsOf(got), b.Kinds)
	}
	var all api.Logic
	var tables []int
	for k, s := range b.Selects {
		tables = append(tables, s.Tables...)
		one, e := lower.Select(c, s)
		if e != api.OK {
			t.Errorf("%v: %v", s, e)
		}
		if k > 0 {
			one = tree(union(), all, one)
		}
		all = one
		below, e := logic.Part(got, len(all.Nodes)-1)
		isTree(t, all)(below, e)
	}
	isTree(t, tree(sortBy(b.Limit, b.Order...), all))(got, api.OK)
	slices.Sort(tables)
	if l := logic.Tables(got); !slices.Equal(l, slices.Compact(tables)) {
		t.Errorf("%v: %v, not %v", got, l, tables)
	}
}

// asks holds what a text comes to, step by step; it tells whether it can be bound.
func asks(t *testing.T, c api.Catalog, text string) bool {
	t.Helper()
	q, at, e := parse.Query(text)
	if e != api.OK {
		fails(t, c, text, at, e)
		return false
	}
	b, at, e := bind.Bind(c, q)
	if e != api.OK {
		fails(t, c, text, at, e)
		return false
	}
	follow(t, c, b)
	want, _ := lower.Lower(c, b)
	says(t, c, text, want, b.Names...)
	return true
}

// P14.3, P14.4: all texts that the tests of parse and bind have, over tables of several kinds.
func TestTextsOfOthers(t *testing.T) {
	for _, layer := range []string{"parse", "bind"} {
		bound := 0
		for _, text := range textsOf(t, layer) {
			for _, lines := range catalogs {
				if asks(t, tables(t, lines), text) {
					bound++
				}
			}
		}
		t.Log(layer, bound)
	}
}

// made are texts of chance.
func made(seed int64, count, wrong int) []string {
	m := maker{Rand: rand.New(rand.NewSource(seed)), wrong: wrong}
	var l []string
	for range count {
		l = append(l, m.query())
	}
	return l
}

// P14.3, P14.4: texts of chance, most of them right, many of them wrong.
func TestTextsOfChance(t *testing.T) {
	c := tables(t, few)
	for _, wrong := range []int{10, 100, 100000} {
		bound := 0
		for _, text := range made(int64(wrong), 700, wrong) {
			if asks(t, c, text) {
				bound++
			}
		}
		if bound < 50 || bound == 700 {
			t.Error(wrong, bound)
		}
	}
}

// boundOf are what texts of chance are bound to.
func boundOf(t *testing.T, seed int64, count int) []api.Bound {
	t.Helper()
	c := tables(t, few)
	var l []api.Bound
	for _, text := range made(seed, count, 100000) {
		q, _, e := parse.Query(text)
		if e != api.OK {
			continue
		}
		if b, _, e := bind.Bind(c, q); e == api.OK {
			l = append(l, b)
		}
	}
	if len(l) < count/10 {
		t.Fatal(len(l))
	}
	return l
}

// spoiled changes a query in one of many ways; some of them leave it such as can be lowered.
func spoiled(r *rand.Rand, b *api.Bound) {
	s := &b.Selects[r.Intn(len(b.Selects))]
	n := r.Intn(18) - 1
	x := []api.Expr{col(n), num(1), lit(null), {}, on(api.NIsNull, col(n)), lit(yes), exprOf(api.ENode{})}[r.Intn(7)]
	changes := []func(){
		func() { s.Tables[r.Intn(len(s.Tables))] = r.Intn(6) - 1 },
		func() { s.Tables = append(s.Tables, r.Intn(4)) },
		func() { s.Tables = s.Tables[1:] },
		func() { s.Joins = append(s.Joins, api.BJoin{On: x}) },
		func() { s.Tables, s.Joins = append(s.Tables, r.Intn(4)), append(s.Joins, api.BJoin{On: x}) },
		func() { s.Where = x },
		func() { s.Having = x },
		func() { s.Grouped = !s.Grouped },
		func() { s.Distinct = !s.Distinct },
		func() { s.Keys = append(s.Keys, n) },
		func() { s.Keys = nil },
		func() { s.Aggs = append(s.Aggs, agg(r.Intn(7), x)) },
		func() { s.Aggs = nil },
		func() { s.Items[r.Intn(len(s.Items))] = x },
		func() { s.Items = append(s.Items, x) },
		func() { s.Items = s.Items[1:] },
		func() { b.Selects = append(b.Selects, b.Selects[0]) },
		func() { b.Selects = b.Selects[1:] },
		func() { b.Kinds[r.Intn(len(b.Kinds))] = r.Intn(4) },
		func() { b.Kinds, b.Names = append(b.Kinds, r.Intn(4)), append(b.Names, "n") },
		func() { b.Names = append(b.Names, "n") },
		func() { b.Order = append(b.Order, api.Ord{Col: r.Intn(4) - 1}) },
		func() { b.Limit = []int{-2, -1, 0, api.MaxNumber, api.MaxNumber + 1}[r.Intn(5)] },
	}
	changes[r.Intn(len(changes))]()
}

// P14.1, P14.2: whatever is wrong with what was bound, it is lowered or refused by the rule.
func TestByRule(t *testing.T) {
	c := tables(t, few)
	r := rand.New(rand.NewSource(141))
	counts := map[bool]int{}
	for _, good := range boundOf(t, 142, 500) {
		for range 8 {
			b := copyOf(good)
			spoiled(r, &b)
			want, ok := byRule(c, b)
			counts[ok]++
			if ok {
				isTree(t, want)(lower.Lower(c, b))
			} else {
				isNone(t, api.ErrBound)(lower.Lower(c, b))
			}
			for _, s := range b.Selects {
				if want, ok := selectByRule(c, s); ok {
					isTree(t, want)(lower.Select(c, s))
				} else {
					isNone(t, api.ErrBound)(lower.Select(c, s))
				}
			}
		}
	}
	if counts[true] < 500 || counts[false] < 500 {
		t.Error(counts)
	}
}

// R1: the greatest query that may be: of expressions of as many nodes as they may have, at each place.
func TestGreatest(t *testing.T) {
	truth := func(count int) api.Expr {
		l := slices.Repeat(lit(yes).Nodes, 1)
		for len(l) < count {
			l = append(l, api.ENode{Tag: api.NNot, L: len(l) - 1, R: -1})
		}
		return exprOf(l...)
	}
	great := truth(api.MaxExpr)
	s := api.BSelect{Tables: []int{3, 3, 3}, Joins: slices.Repeat([]api.BJoin{{On: great}}, 2), Where: great, Having: great, Grouped: true, Distinct: true, Keys: []int{0, 1, 2}}
	s.Aggs = slices.Repeat([]api.Agg{agg(api.AggMin, great)}, api.MaxAggs)
	s.Items = slices.Repeat([]api.Expr{great}, api.MaxWidth)
	b := query(slices.Repeat([]int{api.VBool}, api.MaxWidth), s, s, s)
	b.Order, b.Limit = []api.Ord{{Col: 15}, {Col: 15, Desc: true}, {}}, api.MaxNumber
	c := tables(t, few)
	want, ok := byRule(c, b)
	if !ok {
		t.Fatal("may not be")
	}
	isTree(t, want)(lower.Lower(c, b))
	b.Selects[2].Items = slices.Clone(s.Items)
	b.Selects[2].Items[15] = truth(api.MaxExpr + 1)
	isNone(t, api.ErrBound)(lower.Lower(c, b))
}
