package bind

import (
	"cmp"
	"slices"

	"bowsprit/api"
	"bowsprit/ast"
	"bowsprit/catalog"
)

// named is a column that has a name, and how many have that one.
type named struct {
	column, times int
}

// names tell of each name what it names.
type names map[api.Name]named

func (n names) add(name api.Name, column int) {
	n[name] = named{column, n[name].times + 1}
}

// column is the one that a name names.
func (n names) column(name api.Name) (int, api.Errno) {
	x := n[name]
	switch x.times {
	case 0:
		return 0, api.ErrName
	case 1:
		return x.column, api.OK
	}
	return 0, api.ErrTwice
}

// scope is the sources of a select, as far as they are taken.
type scope struct {
	api.Catalog
	places []int      // of the sources' tables
	full   []api.Name // of each column, with what its source is called
	kinds  []int      // of each column
	names  names      // with a Table and without
}

func newScope(c api.Catalog) scope {
	return scope{Catalog: c, names: names{}}
}

// source takes one source more. As each table has a column, none that was taken is called as none of the columns is.
func (s *scope) source(x api.Source) api.Errno {
	place, there := catalog.Find(s.Catalog, x.Table)
	if !there {
		return api.ErrTables
	}
	called := cmp.Or(x.As, x.Table)
	if slices.ContainsFunc(s.full, func(n api.Name) bool { return n.Table == called }) {
		return api.ErrAlias
	}
	s.places = append(s.places, place)
	for _, c := range s.Tables[place].Columns {
		full := api.Name{Table: called, Name: c.Name}
		s.names.add(full, len(s.full))
		s.names.add(api.Name{Name: c.Name}, len(s.full))
		s.full = append(s.full, full)
		s.kinds = append(s.kinds, c.Kind)
	}
	return api.OK
}

// all are the columns, in order, each as an item that names it.
func (s *scope) all() []api.Item {
	var items []api.Item
	for _, n := range s.full {
		t, _ := ast.Leaf(api.Node{Tag: api.NName, Table: n.Table, Name: n.Name})
		items = append(items, api.Item{Tree: t})
	}
	return items
}
