package rewrite_test

import (
	"math/rand"
	"slices"

	"bowsprit/api"
)

// maker makes trees of chance over the tables of kinds, and databases for them. One of so many expressions may fault.
type maker struct {
	*rand.Rand
	tables [][]int
	wrong  int
}

func newMaker(seed int64, wrong int) maker {
	m := maker{Rand: rand.New(rand.NewSource(seed)), wrong: wrong}
	for range api.MaxTables {
		kinds := []int{api.VInt}
		for range m.Intn(3) {
			kinds = append(kinds, api.VBool+m.Intn(3))
		}
		m.tables = append(m.tables, kinds)
	}
	return m
}

// value is one of a kind, or null; a few of them come often.
func (m maker) value(kind int) api.Value {
	if kind == api.VNull || m.Intn(6) == 0 {
		return null
	}
	switch kind {
	case api.VBool:
		return []api.Value{no, yes}[m.Intn(2)]
	case api.VText:
		return text([]string{"", "a", "b"}[m.Intn(3)])
	}
	if m.Intn(12) == 0 {
		return number([]int64{most, least, most - 1, -most}[m.Intn(4)])
	}
	return number(int64(m.Intn(4) - 1))
}

func (m maker) rows(kinds []int, count int) []api.Row {
	l := make([]api.Row, m.Intn(count+1))
	for k := range l {
		for _, kind := range kinds {
			l[k] = append(l[k], m.value(kind))
		}
	}
	return l
}

func (m maker) base() api.Base {
	var b api.Base
	for _, kinds := range m.tables {
		b.Tables = append(b.Tables, m.rows(kinds, []int{1, 4, 6, 9}[m.Intn(4)]))
	}
	return b
}

// leaf is a column of a kind, or a value of it; and its own kind.
func (m maker) leaf(kinds []int, kind int) (api.Expr, int) {
	for range 3 {
		if c := m.Intn(len(kinds)); kinds[c] == kind {
			return col(c), kind
		}
	}
	v := m.value(kind)
	return lit(v), v.Kind
}

// expr is an expression over columns, of a kind, or of VNull, or (if kind is VNull) of whatever one; and its own kind.
func (m maker) expr(kinds []int, kind, depth int) (api.Expr, int) {
	if kind == api.VNull {
		kind = m.Intn(4)
	}
	faults := m.Intn(m.wrong) == 0
	if depth == 0 || m.Intn(3) == 0 || kind == api.VNull || kind == api.VText || kind == api.VInt && !faults {
		return m.leaf(kinds, kind)
	}
	part := func(kind int) api.Expr {
		x, _ := m.expr(kinds, kind, depth-1)
		return x
	}
	if kind == api.VInt {
		tag := []int{api.NNeg, api.NAdd, api.NAdd, api.NSub, api.NMul, api.NDiv, api.NDiv, api.NDiv}[m.Intn(8)]
		if tag == api.NNeg {
			return on(tag, part(kind)), kind
		}
		return on(tag, part(kind), part(kind)), kind
	}
	switch m.Intn(8) {
	case 0:
		return on([]int{api.NIsNull, api.NNotNull}[m.Intn(2)], part(api.VNull)), kind
	case 1:
		return on(api.NNot, part(kind)), kind
	case 2:
		return on(api.NOr, part(kind), part(kind)), kind
	}
	tag := []int{api.NEq, api.NEq, api.NNe, api.NNe, api.NLt, api.NLe, api.NGt, api.NGe}[m.Intn(8)]
	both := api.VInt
	if m.Intn(3) == 0 {
		both = 1 + m.Intn(3)
	}
	return on(tag, part(both), part(both)), kind
}

// cond is one, two or more conditions joined by Ands; a literal, rarely, a true one most often.
func (m maker) cond(kinds []int) api.Expr {
	if m.Intn(8) == 0 {
		return lit([]api.Value{yes, yes, yes, no, null}[m.Intn(5)])
	}
	x, _ := m.expr(kinds, api.VBool, 2)
	for m.Intn(2) == 0 {
		y, _ := m.expr(kinds, api.VBool, 2)
		if m.Intn(2) == 0 {
			x, y = y, x
		}
		x = on(api.NAnd, x, y)
	}
	return x
}

func (m maker) group(over []int) (api.LNode, []int) {
	n := group(nil)
	var kinds []int
	for range m.Intn(3) {
		k := m.Intn(len(over))
		n.Keys, kinds = append(n.Keys, k), append(kinds, over[k])
	}
	for range 1 + m.Intn(2) {
		tag := 1 + m.Intn(5)
		if tag == api.AggAll {
			n.Aggs, kinds = append(n.Aggs, agg(tag)), append(kinds, api.VInt)
			continue
		}
		x, kind := m.expr(over, []int{api.VNull, api.VInt}[m.Intn(2)], 1)
		if tag == api.AggSum && kind != api.VInt && kind != api.VNull || tag == api.AggCount {
			tag, kind = api.AggCount, api.VInt
		} else if tag == api.AggSum {
			kind = api.VInt
		}
		n.Aggs, kinds = append(n.Aggs, agg(tag, x)), append(kinds, kind)
	}
	return n, kinds
}

// project has columns more often than not.
func (m maker) project(over []int, count int) (api.LNode, []int) {
	n := project()
	var kinds []int
	for range count {
		x, kind := col(0), over[0]
		if m.Intn(3) > 0 {
			c := m.Intn(len(over))
			x, kind = col(c), over[c]
		} else {
			x, kind = m.expr(over, api.VNull, 2)
		}
		n.Items, kinds = append(n.Items, x), append(kinds, kind)
	}
	return n, kinds
}

// keyed is a group, now and then a filter, and items that are its columns in some order, all of them more often than not, made distinct; and their kinds.
func (m maker) keyed(l api.Logic, over []int) (api.Logic, []int) {
	n, own := m.group(over)
	l = tree(n, l)
	if m.Intn(2) == 0 {
		l = tree(filter(m.cond(own)), l)
	}
	items := project()
	var kinds []int
	for _, c := range m.Perm(len(own))[m.Intn(min(2, len(own))):] {
		items.Items, kinds = append(items.Items, col(c)), append(kinds, own[c])
	}
	return up(l, items, distinct()), kinds
}

// fitted is a tree cast to kinds, by items that are columns where there is one of the kind, or else values.
func (m maker) fitted(l api.Logic, over, kinds []int) api.Logic {
	n := project()
	for _, kind := range kinds {
		x, _ := m.leaf(over, kind)
		n.Items = append(n.Items, x)
	}
	return tree(n, l)
}

// tree is one that may be, no sort in it, and its kinds, reckoned while it grows.
func (m maker) tree(depth int) (api.Logic, []int) {
	if depth == 0 {
		k := m.Intn(len(m.tables))
		return table(k, m.tables[k]...), m.tables[k]
	}
	l, kinds := m.tree(depth - 1)
	switch m.Intn(13) {
	case 11:
		return m.keyed(l, kinds)
	case 0, 1, 2:
		other, more := m.tree(m.Intn(depth))
		if both := slices.Concat(kinds, more); len(both) <= 10 {
			return tree(join(m.Intn(3) == 0, m.cond(both)), l, other), both
		}
	case 3, 4, 5, 6:
		return tree(filter(m.cond(kinds)), l), kinds
	case 7:
		n, own := m.group(kinds)
		return tree(n, l), own
	case 8, 9:
		n, own := m.project(kinds, 1+m.Intn(5))
		return tree(n, l), own
	case 10:
		other, more := m.tree(m.Intn(depth))
		return tree(union(), l, m.fitted(other, more, kinds)), kinds
	}
	return tree(distinct(), l), kinds
}

// query is a tree that may be, with a sort as its root now and then, and its kinds.
func (m maker) query() (api.Logic, []int) {
	for {
		l, kinds := m.tree(m.Intn(9))
		if m.Intn(4) == 0 {
			l = tree(sortBy(m.Intn(8)-1, api.Ord{Col: m.Intn(len(kinds)), Desc: m.Intn(2) == 0}), l)
		}
		if len(l.Nodes) <= api.MaxLogic {
			return l, kinds
		}
	}
}
