package bind

import "bowsprit/api"

// selecting is a select that is being bound.
type selecting struct {
	scope
	asked    api.Select
	bound    api.BSelect
	ofGroup  []int      // the kinds of the group's columns, as far as there are any
	called   []string   // what the items are called
	comingTo []int      // the items' kinds
	query    *api.Bound // what the selects ahead came to
}

// parts are what is bound in turn, each at its place.
func (s *selecting) parts() [api.AtUnion + 1]func() api.Errno {
	return [...]func() api.Errno{
		api.AtFrom:   s.from,
		api.AtJoin:   s.joins,
		api.AtWhere:  s.where,
		api.AtGroup:  s.group,
		api.AtItem:   s.items,
		api.AtHaving: s.having,
		api.AtUnion:  s.union,
	}
}

func (s *selecting) from() api.Errno {
	s.bound.Distinct, s.bound.Grouped = s.asked.Distinct, Grouped(s.asked)
	return s.source(s.asked.From)
}

// joins takes the last of the sources: all their tables are known when it is done.
func (s *selecting) joins() api.Errno {
	for _, j := range s.asked.Joins {
		if e := s.source(j.Source); e != api.OK {
			return e
		}
		on, e := s.condition(j.On, false)
		if e != api.OK {
			return e
		}
		s.bound.Joins = append(s.bound.Joins, api.BJoin{Left: j.Left, On: on})
	}
	s.bound.Tables = s.places
	return api.OK
}

func (s *selecting) where() (e api.Errno) {
	s.bound.Where, e = s.condition(s.asked.Where, false)
	return e
}

func (s *selecting) group() api.Errno {
	for _, n := range s.asked.Group {
		column, e := s.names.column(n)
		if e != api.OK {
			return e
		}
		s.bound.Keys = append(s.bound.Keys, column)
		s.ofGroup = append(s.ofGroup, s.kinds[column])
	}
	return api.OK
}

func (s *selecting) items() api.Errno {
	items := s.asked.Items
	if s.asked.Star {
		if s.bound.Grouped {
			return api.ErrStar
		}
		items = s.all()
	}
	for _, i := range items {
		x, kind, e := s.tree(i.Tree, s.bound.Grouped)
		if e != api.OK {
			return e
		}
		s.bound.Items = append(s.bound.Items, x)
		s.comingTo = append(s.comingTo, kind)
		s.called = append(s.called, calledOf(i))
	}
	return api.OK
}

// calledOf is what an item is called; nothing, if it is not.
func calledOf(i api.Item) string {
	if i.As == "" && len(i.Tree.Nodes) == 1 {
		return i.Tree.Nodes[0].Name
	}
	return i.As
}

func (s *selecting) having() (e api.Errno) {
	s.bound.Having, e = s.condition(s.asked.Having, true)
	return e
}

// union holds the items against those of the selects ahead.
func (s *selecting) union() api.Errno {
	q := s.query
	if len(q.Selects) == 0 {
		q.Names, q.Kinds = s.called, s.comingTo
		return api.OK
	}
	if len(s.comingTo) != len(q.Kinds) {
		return api.ErrUnion
	}
	for column, kind := range s.comingTo {
		switch ahead := q.Kinds[column]; {
		case ahead == api.VNull:
			q.Kinds[column] = kind
		case ahead != kind && kind != api.VNull:
			return api.ErrUnion
		}
	}
	return api.OK
}

// condition binds a tree that has to be a truth; of one that is not there nothing comes.
func (s *selecting) condition(t api.Tree, grouped bool) (api.Expr, api.Errno) {
	if len(t.Nodes) == 0 {
		return api.Expr{}, api.OK
	}
	x, kind, e := s.tree(t, grouped)
	if e == api.OK && kind != api.VBool && kind != api.VNull {
		return api.Expr{}, api.ErrTruth
	}
	return x, e
}
