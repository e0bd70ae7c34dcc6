package lower

import (
	"slices"

	"bowsprit/api"
	"bowsprit/logic"
)

// within tells whether a number stands from least to most.
func within(n, least, most int) bool {
	return least <= n && n <= most
}

// builder lays trees over the tables of its catalog. Once something was refused nothing that it lays counts.
type builder struct {
	api.Catalog
	refused bool
}

// growth lays an operator over all that has grown so far, and over trees beside that.
type growth func(n api.LNode, beside ...api.Logic)

// lay is an operator over parts.
func (b *builder) lay(n api.LNode, parts ...api.Logic) api.Logic {
	var tree api.Logic
	e := api.OK
	switch len(parts) {
	case 0:
		tree, e = logic.Leaf(n)
	case 1:
		tree, e = logic.One(n, parts[0])
	default:
		tree, e = logic.Two(n, parts[0], parts[1])
	}
	b.refused = b.refused || e != api.OK
	return tree
}

// grown is what steps lay in turn, from below.
func (b *builder) grown(steps ...func(growth)) api.Logic {
	var sofar []api.Logic // just one, when the first operator is laid
	for _, step := range steps {
		step(func(n api.LNode, beside ...api.Logic) {
			sofar = []api.Logic{b.lay(n, append(sofar, beside...)...)}
		})
	}
	return sofar[0]
}

// scan is the operator of a table, by its place.
func (b *builder) scan(place int) api.LNode {
	n := api.LNode{Op: api.LScan, Table: place}
	for _, column := range b.Tables[place].Columns {
		n.Kinds = append(n.Kinds, column.Kind)
	}
	return n
}

func (b *builder) isNoTable(place int) bool {
	return !within(place, 0, len(b.Tables)-1)
}

// isWhole tells what the tree of a select does not: whether there are as many joins as tables ask for, and nothing of groups where there are none. Without that no tree is begun.
func (b *builder) isWhole(s api.BSelect) bool {
	if !within(len(s.Tables), 1, api.MaxJoins+1) || len(s.Joins) != len(s.Tables)-1 {
		return false
	}
	if !s.Grouped && len(s.Keys)+len(s.Aggs)+len(s.Having.Nodes) > 0 {
		return false
	}
	return !slices.ContainsFunc(s.Tables, b.isNoTable)
}

func (b *builder) selected(s api.BSelect) api.Logic {
	if !b.isWhole(s) {
		b.refused = true
		return api.Logic{}
	}
	l := selecting{builder: b, bound: s}
	return b.grown(l.sources, l.where, l.groups, l.having, l.items, l.distinct)
}

// asked is the tree of a whole query. Kinds are held against the tree's at last, for no node of it tells them.
func (b *builder) asked(q api.Bound) api.Logic {
	if !within(len(q.Selects), 1, api.MaxSelects) {
		b.refused = true
		return api.Logic{}
	}
	all := b.selected(q.Selects[0])
	for _, s := range q.Selects[1:] {
		all = b.lay(api.LNode{Op: api.LUnion}, all, b.selected(s))
	}
	all = b.lay(api.LNode{Op: api.LSort, Order: q.Order, Limit: q.Limit}, all)
	kinds, _ := logic.Kinds(all)
	b.refused = b.refused || len(q.Names) != len(kinds) || !slices.Equal(q.Kinds, kinds)
	return all
}
