package bind_test

import (
	"math/rand"
	"slices"
	"strconv"
	"testing"

	"bowsprit/api"
	"bowsprit/ast"
	"bowsprit/bind"
	"bowsprit/expr"
)

// maker makes queries by chance over a catalog; now and then a part of them is wrong.
type maker struct {
	*rand.Rand
	c       api.Catalog
	wrong   int // one in so many parts is wrong
	columns []ruled
	keys    []ruled
	grouped bool
}

func (m *maker) oneIn(n int) bool {
	return m.Intn(n) == 0
}

func (m *maker) slip() bool {
	return m.oneIn(m.wrong)
}

// laid is a tree of a tag over parts, laid without the program.
func laid(root api.Node, parts ...api.Tree) api.Tree {
	var l []api.Node
	places := [2]int{-1, -1}
	for k, p := range parts {
		by := len(l)
		for _, n := range p.Nodes {
			if n.L >= 0 {
				n.L += by
			}
			if n.R >= 0 {
				n.R += by
			}
			l = append(l, n)
		}
		places[k] = len(l) - 1
	}
	root.L, root.R = places[0], places[1]
	return api.Tree{Nodes: append(l, root)}
}

func on(tag int, parts ...api.Tree) api.Tree {
	return laid(api.Node{Tag: tag}, parts...)
}

func (m *maker) literal(kind int) api.Tree {
	v := api.Value{Kind: kind}
	switch {
	case kind == api.VNull || m.oneIn(12):
		v = api.Value{}
	case kind == api.VText:
		v.S = []string{"", "x", "y"}[m.Intn(3)]
	default:
		v.N = int64(m.Intn(2))
	}
	return laid(api.Node{Tag: api.NLit, Value: v})
}

// name is how a column may be named, and now and then one that is not there.
func (m *maker) name(c ruled) api.Name {
	times := 0
	for _, x := range m.columns {
		if x.name == c.name {
			times++
		}
	}
	n := api.Name{Table: c.source, Name: c.name}
	if times == 1 && m.oneIn(2) || m.slip() {
		n.Table = ""
	}
	if m.slip() {
		n.Name = []string{"zz", "a", "t", "d"}[m.Intn(4)]
	}
	if m.slip() {
		n.Table = []string{"zz", "t", "u", "x"}[m.Intn(4)]
	}
	return n
}

// column is a name of a kind, if there is one, or a literal.
func (m *maker) column(kind int, l []ruled) api.Tree {
	l = slices.DeleteFunc(slices.Clone(l), func(c ruled) bool { return c.kind != kind && !m.slip() })
	if len(l) == 0 || m.oneIn(5) {
		return m.literal(kind)
	}
	n := m.name(l[m.Intn(len(l))])
	return laid(api.Node{Tag: api.NName, Table: n.Table, Name: n.Name})
}

// aggregate is one of a kind, if there is one of it.
func (m *maker) aggregate(kind int) api.Tree {
	outer := m.grouped
	m.grouped = m.slip()
	defer func() { m.grouped = outer }()
	arg := func(kind int) api.Tree { return m.tree(kind, m.Intn(2)) }
	switch {
	case kind != api.VInt && !m.slip() || m.oneIn(3):
		return on([]int{api.NMin, api.NMax}[m.Intn(2)], arg(kind))
	case m.oneIn(3):
		return on(api.NCountAll)
	case m.oneIn(2):
		return on(api.NCount, arg(m.Intn(4)))
	}
	if m.slip() {
		kind = m.Intn(4)
	}
	return on(api.NSum, arg(kind))
}

func (m *maker) leaf(kind int) api.Tree {
	switch {
	case m.grouped && m.oneIn(2) || m.slip() && m.slip():
		return m.aggregate(kind)
	case m.grouped && !m.slip():
		return m.column(kind, m.keys)
	}
	return m.column(kind, m.columns)
}

// tree is one of a kind, of at most a depth and little more.
func (m *maker) tree(kind, depth int) api.Tree {
	if m.slip() {
		kind = m.Intn(4)
	}
	if depth == 0 || kind != api.VBool && kind != api.VInt {
		return m.leaf(kind)
	}
	part := func(kind int) api.Tree { return m.tree(kind, m.Intn(depth)) }
	if kind == api.VInt {
		if m.oneIn(4) {
			return on(api.NNeg, part(kind))
		}
		return on(api.NAdd+m.Intn(4), part(kind), part(kind))
	}
	switch other := api.VBool + m.Intn(3); m.Intn(5) {
	case 0:
		return on(api.NNot, part(kind))
	case 1:
		return on(api.NIsNull+m.Intn(2), part(other))
	case 2:
		return on(api.NAnd+m.Intn(2), part(kind), part(kind))
	default:
		return on(api.NEq+m.Intn(6), part(other), part(other))
	}
}

// many is a sum of that many aggregates, most of them unlike one another.
func (m *maker) many(count int) api.Tree {
	t := on(api.NCountAll)
	for k := range count - 1 {
		x := on(api.NSum+m.Intn(3), laid(api.Node{Tag: api.NLit, Value: api.Value{Kind: api.VInt, N: int64(k)}}))
		t = on(api.NAdd, t, x)
	}
	return t
}

func (m *maker) source() api.Source {
	table := m.c.Tables[m.Intn(len(m.c.Tables))]
	s := api.Source{Table: table.Name}
	taken := func(name string) bool {
		return slices.ContainsFunc(m.columns, func(c ruled) bool { return c.source == name })
	}
	if m.oneIn(2) || taken(s.Table) && !m.slip() {
		s.As = []string{"x", "y", "t", "u"}[m.Intn(4)]
		for taken(s.As) && !m.slip() {
			s.As = []string{"x", "y", "t", "u"}[m.Intn(4)]
		}
	}
	called := s.As
	if called == "" {
		called = s.Table
	}
	for _, c := range table.Columns {
		m.columns = append(m.columns, ruled{called, c.Name, c.Kind})
	}
	if m.slip() {
		s.Table = "zz"
	}
	return s
}

func (m *maker) selected(kinds []int, counts bool) api.Select {
	s := api.Select{Distinct: m.oneIn(3)}
	m.columns, m.keys, m.grouped = nil, nil, false
	s.From = m.source()
	for range m.Intn(api.MaxJoins + 1) {
		s.Joins = append(s.Joins, api.Join{Left: m.oneIn(2), Source: m.source()})
		s.Joins[len(s.Joins)-1].On = m.tree(api.VBool, 2)
	}
	if m.oneIn(2) {
		s.Where = m.tree(api.VBool, 2)
	}
	grouped := m.oneIn(2)
	for range m.Intn(api.MaxNames + 1) {
		if grouped {
			m.keys = append(m.keys, m.columns[m.Intn(len(m.columns))])
			s.Group = append(s.Group, m.name(m.keys[len(m.keys)-1]))
		}
	}
	m.grouped = grouped
	if grouped && m.oneIn(2) {
		s.Having = m.tree(api.VBool, 2)
	}
	if counts && (!grouped && m.oneIn(8) || m.slip()) {
		s.Star = true
		return s
	}
	for _, kind := range kinds {
		i := api.Item{Tree: m.tree(kind, 2)}
		if grouped && kind == api.VInt && m.oneIn(6) {
			i.Tree = m.many(5 + m.Intn(10))
		}
		if m.oneIn(2) {
			i.As = []string{"a", "b", "n", "k"}[m.Intn(4)]
		}
		s.Items = append(s.Items, i)
	}
	return s
}

func (m *maker) query() api.Query {
	kinds := make([]int, 1+m.Intn(4))
	for k := range kinds {
		kinds[k] = m.Intn(4)
	}
	selects := 1 + m.Intn(api.MaxSelects)
	q := api.Query{Limit: m.Intn(4) - 1}
	for range selects {
		if m.slip() && len(kinds) < api.MaxItems {
			kinds = append(kinds, api.VInt)
		}
		q.Selects = append(q.Selects, m.selected(kinds, selects == 1 || m.slip()))
	}
	for range m.Intn(api.MaxKeys + 1) {
		k := api.Key{Number: 1 + m.Intn(len(kinds)), Desc: m.oneIn(2)}
		if i := q.Selects[0].Items; len(i) > 0 && m.oneIn(2) {
			if name := i[m.Intn(len(i))].As; name != "" {
				k = api.Key{Name: name}
			}
		}
		if m.slip() {
			k = []api.Key{{}, {Name: "zz"}, {Name: "a"}, {Number: 9}}[m.Intn(4)]
		}
		q.Keys = append(q.Keys, k)
	}
	return q
}

// few more catalogs: without tables of one name, but of columns that are.
var catalogs = []string{few, "table t a int\n", "table x a int b bool c text d int by a d\ntable t a text b text\n", "table zz zz int\ntable t d bool x int\ntable u d int\n"}

// made are queries of chance, with their catalogs: of that many parts one is wrong.
func made(t *testing.T, seed int64, count, wrong int) func(func(api.Catalog, api.Query) bool) {
	t.Helper()
	m := maker{Rand: rand.New(rand.NewSource(seed)), wrong: wrong}
	var l []api.Catalog
	for _, lines := range catalogs {
		l = append(l, tables(t, lines))
	}
	return func(yield func(api.Catalog, api.Query) bool) {
		for range count {
			m.c = l[m.Intn(len(l))]
			q := m.query()
			if e := ast.Check(q); e != api.OK {
				t.Fatal(q, e)
			}
			if !yield(m.c, q) {
				return
			}
		}
	}
}

// P12.1: whatever the query, it comes to what is reckoned apart from the program; and each error that there may be at a place comes there.
func TestByRule(t *testing.T) {
	seen := map[[2]int]int{}
	for _, wrong := range []int{7, 30, 150, 100000} {
		for c, q := range made(t, int64(wrong), 20000, wrong) {
			want, at, e := byRule(c, q)
			seen[[2]int{at, int(e)}]++
			if e == api.OK {
				isBound(t, c, q, want)
			} else {
				isRefused(t, c, q, at, e)
			}
		}
	}
	inTree := []api.Errno{api.ErrName, api.ErrTwice, api.ErrKind, api.ErrAgg}
	for number := range 3 {
		for part, errs := range [][]api.Errno{
			api.AtFrom:   {api.ErrTables},
			api.AtJoin:   append([]api.Errno{api.ErrTables, api.ErrAlias, api.ErrTruth}, inTree...),
			api.AtWhere:  append([]api.Errno{api.ErrTruth}, inTree...),
			api.AtGroup:  {api.ErrName, api.ErrTwice},
			api.AtItem:   append([]api.Errno{api.ErrGroup, api.ErrStar, api.ErrWide}, inTree...),
			api.AtHaving: append([]api.Errno{api.ErrGroup, api.ErrWide, api.ErrTruth}, inTree...),
			api.AtUnion:  {api.ErrUnion},
		} {
			for _, e := range errs {
				if seen[[2]int{10*number + part, int(e)}] == 0 && (number > 0 || part != api.AtUnion) {
					t.Error("no query of", e, "at", 10*number+part)
				}
			}
		}
	}
	if seen[[2]int{90, int(api.ErrName)}] == 0 || seen[[2]int{90, int(api.ErrTwice)}] == 0 || seen[[2]int{0, 0}] < 10000 {
		t.Error(seen)
	}
}

// bounds are queries of chance that can be bound, and what they come to.
func bounds(t *testing.T, seed int64, count int) func(func(api.Query, api.Bound) bool) {
	t.Helper()
	return func(yield func(api.Query, api.Bound) bool) {
		for c, q := range made(t, seed, count, 200) {
			if b, _, e := bind.Bind(c, q); e == api.OK && c.Tables[0].Name == "t" && len(c.Tables) == 4 && !yield(q, b) {
				return
			}
		}
	}
}

func isKind(t *testing.T, x api.Expr, over []int, want ...int) {
	t.Helper()
	if kind, e := expr.Kind(x, over); e != api.OK || !slices.Contains(want, kind) {
		t.Errorf("%s over %v: %v, %v, not %v", written(x), over, kind, e, want)
	}
}

// ofGroup are the kinds of a group's columns, by the columns' kinds.
func ofGroup(t *testing.T, s api.BSelect, over []int) []int {
	t.Helper()
	var kinds []int
	for _, k := range s.Keys {
		kinds = append(kinds, over[k])
	}
	for _, a := range s.Aggs {
		kind := api.VInt
		if a.Tag != api.AggAll {
			own, e := expr.Kind(a.Arg, over)
			if e != api.OK || a.Tag == api.AggSum && own != api.VInt && own != api.VNull {
				t.Error(writtenAgg(a), over, e)
			}
			if a.Tag >= api.AggMin {
				kind = own
			}
		}
		kinds = append(kinds, kind)
	}
	return kinds
}

// P12.4: all expressions have kinds over their columns: conditions are truths or null, items of the columns' kinds or null.
func TestKindsFollow(t *testing.T) {
	c, count := tables(t, few), 0
	for _, b := range bounds(t, 121, 20000) {
		count++
		for _, s := range b.Selects {
			for k, j := range s.Joins {
				over, _ := bind.Columns(c, s.Tables[:k+2])
				isKind(t, j.On, over, api.VBool, api.VNull)
			}
			over, e := bind.Columns(c, s.Tables)
			if len(s.Where.Nodes) > 0 {
				isKind(t, s.Where, over, api.VBool, api.VNull)
			}
			n, m, err := bind.Widths(c, s)
			if e != api.OK || err != api.OK || n != len(over) || !s.Grouped && m != n {
				t.Error(n, m, e, err)
			}
			if s.Grouped {
				over = ofGroup(t, s, over)
			}
			if m != len(over) || len(s.Items) != len(b.Kinds) || len(s.Aggs) > api.MaxAggs {
				t.Error(m, over, b)
			}
			if len(s.Having.Nodes) > 0 {
				isKind(t, s.Having, over, api.VBool, api.VNull)
			}
			for k, x := range s.Items {
				isKind(t, x, over, b.Kinds[k], api.VNull)
			}
		}
	}
	if count < 1000 {
		t.Error(count)
	}
}

// eachName goes to all names of a select, with the place of the part in which each stands.
func eachName(s *api.Select, visit func(at int, table, name *string)) {
	inTree := func(at int, t api.Tree) {
		for k := range t.Nodes {
			if n := &t.Nodes[k]; n.Tag == api.NName {
				visit(at, &n.Table, &n.Name)
			}
		}
	}
	for _, j := range s.Joins {
		inTree(api.AtJoin, j.On)
	}
	inTree(api.AtWhere, s.Where)
	for k := range s.Group {
		visit(api.AtGroup, &s.Group[k].Table, &s.Group[k].Name)
	}
	for _, i := range s.Items {
		inTree(api.AtItem, i.Tree)
	}
	inTree(api.AtHaving, s.Having)
}

// P12.4: another name in the place of one names nothing, and is the first error, whatever stands behind it.
func TestOtherNames(t *testing.T) {
	c, count := tables(t, few), 0
	for q := range bounds(t, 122, 4000) {
		for number := range q.Selects {
			eachName(&q.Selects[number], func(at int, table, name *string) {
				count++
				was, of := *name, *table
				*name = "no_such"
				isRefused(t, c, q, 10*number+at, api.ErrName)
				*name, *table = was, "no_such"
				isRefused(t, c, q, 10*number+at, api.ErrName)
				keys := q.Keys
				q.Keys = []api.Key{{Name: "no_such"}, {Number: 0}}
				isRefused(t, c, q, 10*number+at, api.ErrName)
				*name, *table = "No_such", of
				isRefused(t, c, q, 0, api.ErrAst)
				*name, q.Keys = was, keys
			})
		}
	}
	if count < 1000 {
		t.Error(count)
	}
}

// behind puts parts of another query behind a place of an error; no select that groups stops to do so, and the other way round.
func behind(q, other api.Query, number, part int) api.Query {
	l := slices.Clone(q.Selects[:number+1])
	s, o := &l[number], other.Selects[0]
	switch {
	case part < api.AtJoin:
		s.Joins = o.Joins
		fallthrough
	case part < api.AtWhere:
		s.Where = o.Where
		fallthrough
	case part < api.AtGroup:
		s.Group = o.Group
		fallthrough
	case part < api.AtItem:
		s.Star, s.Items, s.Having = o.Star, o.Items, o.Having
	case part < api.AtHaving && len(s.Having.Nodes) > 0 && len(o.Having.Nodes) > 0:
		s.Having = o.Having
	}
	rest := min(len(other.Selects)-1, api.MaxSelects-len(l))
	return api.Query{Selects: append(l, other.Selects[1:1+rest]...), Keys: other.Keys, Limit: other.Limit}
}

// P12.4: an error stays the first one, whatever stands behind it.
func TestErrorsStay(t *testing.T) {
	var ahead api.Query
	count := 0
	for c, q := range made(t, 123, 40000, 40) {
		_, at, e := bind.Bind(c, q)
		if e != api.OK && at < api.AtKeys && len(ahead.Selects) > 0 {
			count++
			isRefused(t, c, behind(q, ahead, at/10, at%10), at, e)
		}
		ahead = q
	}
	if count < 1000 {
		t.Error(count)
	}
}

// renamed calls the sources of a select otherwise, with all names in step.
func renamed(s *api.Select) {
	called := map[string]string{}
	call := func(x *api.Source) {
		was := x.As
		if was == "" {
			was = x.Table
		}
		x.As = "n_" + strconv.Itoa(len(called))
		called[was] = x.As
	}
	call(&s.From)
	for k := range s.Joins {
		call(&s.Joins[k].Source)
	}
	eachName(s, func(_ int, table, _ *string) {
		if *table != "" {
			*table = called[*table]
		}
	})
}

// P12.4: sources that are called otherwise, with all names in step: it comes to the same.
func TestSourcesCalledOtherwise(t *testing.T) {
	c, count := tables(t, few), 0
	for q, want := range bounds(t, 124, 10000) {
		count++
		for number := range q.Selects {
			renamed(&q.Selects[number])
			if b, at, e := bind.Bind(c, q); e != api.OK || !bind.Same(b, want) {
				t.Errorf("%v at %v:\n%s, not\n%s", e, at, told(b), told(want))
			}
		}
	}
	if count < 1000 {
		t.Error(count)
	}
}

// P12.4: items that are called otherwise, with all keys in step: it comes to the same, but for the names.
func TestItemsCalledOtherwise(t *testing.T) {
	c, count := tables(t, few), 0
	for q, want := range bounds(t, 125, 10000) {
		if q.Selects[0].Star {
			continue
		}
		count++
		for number, s := range q.Selects {
			for k := range s.Items {
				if number > 0 {
					s.Items[k].As = "n_" + strconv.Itoa(k)
				} else if name := want.Names[k]; name != "" {
					s.Items[k].As, want.Names[k] = "n_"+name, "n_"+name
				}
			}
		}
		for k := range q.Keys {
			if q.Keys[k].Name != "" {
				q.Keys[k].Name = "n_" + q.Keys[k].Name
			}
		}
		if b, at, e := bind.Bind(c, q); e != api.OK || !bind.Same(b, want) {
			t.Errorf("%v at %v:\n%s, not\n%s", e, at, told(b), told(want))
		}
	}
	if count < 1000 {
		t.Error(count)
	}
}

// R1: the greatest queries that may be.
func TestGreatest(t *testing.T) {
	var wide func(count int) api.Tree
	wide = func(count int) api.Tree {
		if count < 3 {
			return laid(api.Node{Tag: api.NLit, Value: api.Value{Kind: api.VBool, N: 1}})
		}
		half := (count - 1) / 2
		return on(api.NAnd, wide(half), wide(count-1-half))
	}
	deep := laid(api.Node{Tag: api.NName, Table: "x", Name: "c"})
	for range api.MaxDepth - 1 {
		deep = on(api.NNot, deep)
	}
	s := api.Select{From: api.Source{Table: "v", As: "x"}, Where: wide(api.MaxNodes), Having: wide(api.MaxNodes - 1), Group: slices.Repeat([]api.Name{{Table: "x", Name: "c"}}, api.MaxNames)}
	for _, name := range []string{"y", "z"} {
		s.Joins = append(s.Joins, api.Join{Source: api.Source{Table: "v", As: name}, On: wide(api.MaxNodes)})
	}
	for range api.MaxItems {
		s.Items = append(s.Items, api.Item{Tree: wide(api.MaxNodes)})
	}
	s.Items[2].Tree = deep
	q := api.Query{Selects: slices.Repeat([]api.Select{s}, api.MaxSelects), Keys: slices.Repeat([]api.Key{{Number: api.MaxItems}}, api.MaxKeys), Limit: api.MaxNumber}
	c := tables(t, few)
	want, _, err := byRule(c, q)
	if err != api.OK {
		t.Fatal(err)
	}
	isBound(t, c, q, want)
	for number := range q.Selects {
		l := slices.Clone(q.Selects)
		l[number].Items = append(slices.Clone(s.Items[:5]), api.Item{Tree: on(api.NNot, laid(api.Node{Tag: api.NLit, Value: api.Value{Kind: api.VInt}}))})
		isRefused(t, c, api.Query{Selects: l, Limit: -1}, 10*number+4, api.ErrKind)
	}
}
