package denote_test

import (
	"math/rand"
	"slices"

	"bowsprit/api"
)

// maker makes trees of chance over the tables of kinds, and databases for them. Of wrong of expressions one may fault.
type maker struct {
	*rand.Rand
	tables [][]int
	wrong  int
}

func newMaker(seed int64, wrong int) maker {
	m := maker{Rand: rand.New(rand.NewSource(seed)), wrong: wrong}
	for range api.MaxTables {
		kinds := make([]int, 1+m.Intn(api.MaxColumns))
		for k := range kinds {
			kinds[k] = api.VBool + m.Intn(3)
		}
		m.tables = append(m.tables, kinds)
	}
	return m
}

// value is one of a kind, or null; a few of them come often.
func (m maker) value(kind int) api.Value {
	if kind == api.VNull || m.Intn(5) == 0 {
		return null
	}
	switch kind {
	case api.VBool:
		return truth(m.Intn(2) == 0)
	case api.VText:
		return text([]string{"", "a", "b", "ab"}[m.Intn(4)])
	}
	if m.Intn(20) == 0 {
		return number([]int64{most, least, most - 1, -most}[m.Intn(4)])
	}
	return number(int64(m.Intn(5) - 2))
}

// rows are as many, or fewer, of kinds.
func (m maker) rows(kinds []int, count int) []api.Row {
	l := make([]api.Row, m.Intn(count+1))
	for k := range l {
		for _, kind := range kinds {
			l[k] = append(l[k], m.value(kind))
		}
	}
	return l
}

func (m maker) base() api.Base {
	var b api.Base
	for _, kinds := range m.tables {
		b.Tables = append(b.Tables, m.rows(kinds, []int{0, 4, 8, 12}[m.Intn(4)]))
	}
	return b
}

// expr is an expression over columns, of a kind, or of VNull, or (if kind is VNull) of whatever one; and that kind.
func (m maker) expr(kinds []int, kind, depth int) (api.Expr, int) {
	if kind == api.VNull {
		kind = m.Intn(4)
	}
	column := m.Intn(len(kinds))
	if (depth == 0 || m.Intn(4) == 0) && (kinds[column] == kind || kinds[column] == api.VNull) {
		return col(column), kinds[column]
	}
	if kind == api.VNull || depth == 0 || kind == api.VText || kind == api.VInt && m.Intn(m.wrong) > 0 {
		v := m.value(kind)
		return lit(v), v.Kind
	}
	part := func(kind int) api.Expr {
		x, _ := m.expr(kinds, kind, depth-1)
		return x
	}
	if kind == api.VInt {
		tag := []int{api.NNeg, api.NAdd, api.NSub, api.NMul, api.NDiv, api.NDiv, api.NDiv}[m.Intn(7)]
		if tag == api.NNeg {
			return on(tag, part(kind)), kind
		}
		return on(tag, part(kind), part(kind)), kind
	}
	switch m.Intn(6) {
	case 0:
		return on([]int{api.NIsNull, api.NNotNull}[m.Intn(2)], part(api.VNull)), kind
	case 1:
		return on(api.NNot, part(kind)), kind
	case 2:
		return on([]int{api.NAnd, api.NOr}[m.Intn(2)], part(kind), part(kind)), kind
	}
	tag := []int{api.NEq, api.NEq, api.NNe, api.NLt, api.NLe, api.NGt, api.NGe}[m.Intn(7)]
	if both := 1 + m.Intn(3); kinds[column] != api.VNull && m.Intn(2) == 0 {
		return on(tag, col(column), part(kinds[column])), kind
	} else {
		return on(tag, part(both), part(both)), kind
	}
}

func (m maker) cond(kinds []int) api.Expr {
	x, _ := m.expr(kinds, api.VBool, 2)
	if m.Intn(4*m.wrong) == 0 {
		y, _ := m.expr(kinds, api.VInt, 2)
		x = on(api.NOr, x, on(api.NGe, y, num(0)))
	}
	return x
}

func (m maker) group(over []int) (api.LNode, []int) {
	n := group(nil)
	var kinds []int
	for range m.Intn(4) {
		k := m.Intn(len(over))
		n.Keys, kinds = append(n.Keys, k), append(kinds, over[k])
	}
	for range 1 + m.Intn(3) {
		switch tag := 1 + m.Intn(5); tag {
		case api.AggAll:
			n.Aggs, kinds = append(n.Aggs, agg(tag)), append(kinds, api.VInt)
		case api.AggSum:
			x, _ := m.expr(over, api.VInt, 1)
			if m.Intn(m.wrong) > 0 {
				x, tag = col(m.Intn(len(over))), api.AggCount
			}
			n.Aggs, kinds = append(n.Aggs, agg(tag, x)), append(kinds, api.VInt)
		default:
			x, kind := m.expr(over, api.VNull, 1)
			if tag == api.AggCount {
				kind = api.VInt
			}
			n.Aggs, kinds = append(n.Aggs, agg(tag, x)), append(kinds, kind)
		}
	}
	return n, kinds
}

func (m maker) project(over []int, count int) (api.LNode, []int) {
	n := project()
	var kinds []int
	for range count {
		x, kind := m.expr(over, api.VNull, 2)
		n.Items, kinds = append(n.Items, x), append(kinds, kind)
	}
	return n, kinds
}

// fitted is a tree cast to kinds, by items that are columns where there is one of the kind, or else values.
func (m maker) fitted(l api.Logic, over, kinds []int) api.Logic {
	n := project()
	for _, kind := range kinds {
		x := lit(m.value(kind))
		for column, own := range over {
			if own == kind && m.Intn(2) == 0 {
				x = col(column)
			}
		}
		n.Items = append(n.Items, x)
	}
	return tree(n, l)
}

// tree is one that may be, no sort in it, and its kinds, reckoned while it grows.
func (m maker) tree(depth int) (api.Logic, []int) {
	if depth == 0 {
		k := m.Intn(len(m.tables))
		return table(k, m.tables[k]...), m.tables[k]
	}
	l, kinds := m.tree(depth - 1)
	switch m.Intn(8) {
	case 0, 1:
		other, more := m.tree(m.Intn(depth))
		if both := slices.Concat(kinds, more); len(both) <= 10 {
			return tree(join(m.Intn(2) == 0, m.cond(both)), l, other), both
		}
		return tree(distinct(), l), kinds
	case 2, 3:
		return tree(filter(m.cond(kinds)), l), kinds
	case 4:
		n, own := m.group(kinds)
		return tree(n, l), own
	case 5:
		n, own := m.project(kinds, 1+m.Intn(4))
		return tree(n, l), own
	case 6:
		return tree(distinct(), l), kinds
	}
	other, more := m.tree(m.Intn(depth))
	return tree(union(), l, m.fitted(other, more, kinds)), kinds
}

// query is a tree that may be, with a sort as its root as often as not, and its kinds.
func (m maker) query() (api.Logic, []int) {
	for {
		l, kinds := m.tree(m.Intn(7))
		if m.Intn(2) == 0 {
			l = tree(m.sort(len(kinds)), l)
		}
		if len(l.Nodes) <= api.MaxLogic {
			return l, kinds
		}
	}
}

func (m maker) sort(width int) api.LNode {
	n := sortBy(m.Intn(8) - 1)
	for range m.Intn(4) {
		n.Order = append(n.Order, api.Ord{Col: m.Intn(width), Desc: m.Intn(2) == 0})
	}
	return n
}
