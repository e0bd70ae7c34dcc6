package lower

import "bowsprit/api"

// selecting is a select whose operators are laid.
type selecting struct {
	*builder
	bound api.BSelect
}

// sources are the first table, and each next one joined to all ahead of it.
func (s selecting) sources(grow growth) {
	grow(s.scan(s.bound.Tables[0]))
	for k, j := range s.bound.Joins {
		next := s.lay(s.scan(s.bound.Tables[k+1]))
		grow(api.LNode{Op: api.LJoin, Left: j.Left, Cond: j.On}, next)
	}
}

func (s selecting) where(grow growth) {
	filter(grow, s.bound.Where)
}

func (s selecting) having(grow growth) {
	filter(grow, s.bound.Having)
}

// filter takes a condition without nodes for one that is not there.
func filter(grow growth, cond api.Expr) {
	if len(cond.Nodes) > 0 {
		grow(api.LNode{Op: api.LFilter, Cond: cond})
	}
}

// groups counts rows where nothing else is asked of a group: no operator has no columns at all.
func (s selecting) groups(grow growth) {
	if !s.bound.Grouped {
		return
	}
	aggs := s.bound.Aggs
	if len(s.bound.Keys)+len(aggs) == 0 {
		aggs = []api.Agg{{Tag: api.AggAll}}
	}
	grow(api.LNode{Op: api.LGroup, Keys: s.bound.Keys, Aggs: aggs})
}

func (s selecting) items(grow growth) {
	grow(api.LNode{Op: api.LProject, Items: s.bound.Items})
}

func (s selecting) distinct(grow growth) {
	if s.bound.Distinct {
		grow(api.LNode{Op: api.LDistinct})
	}
}
