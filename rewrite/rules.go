package rewrite

import (
	"slices"

	"bowsprit/api"
	"bowsprit/expr"
	"bowsprit/logic"
)

// rule is what a rule makes of a tree; false, if it does not hold of it.
type rule func(t tree) (tree, bool)

// rules are all of them, by the numbers that the document gives them.
func rules() map[int]rule {
	return map[int]rule{
		1: filterOfTrue,
		2: filterOverFilter,
		3: filterOverJoin,
		4: projectOverProject,
		5: distinctOverDistinct,
		6: distinctOverGroup,
	}
}

func isUnsafe(x api.Expr) bool {
	return !expr.Safe(x)
}

func isTrue(x api.Expr) bool {
	return len(x.Nodes) == 1 && x.Nodes[0].Value == api.Value{Kind: api.VBool, N: 1}
}

func filterOfTrue(t tree) (tree, bool) {
	if t.Op != api.LFilter || !isTrue(t.Cond) {
		return tree{}, false
	}
	return t.parts[0], true
}

// filterOverFilter asks nothing of the lower one's Cond: both are asked of all rows of which that one was asked, so it faults where it did.
func filterOverFilter(t tree) (tree, bool) {
	if !t.stands(api.LFilter, api.LFilter) || isUnsafe(t.Cond) {
		return tree{}, false
	}
	lower := t.parts[0]
	both, e := expr.All([]api.Expr{lower.Cond, t.Cond})
	if e != api.OK {
		return tree{}, false
	}
	return over(api.LNode{Op: api.LFilter, Cond: both}, lower.parts...), true
}

// filtered is a tree below a filter by all of ands, or alone, if there are none.
func filtered(t tree, ands []api.Expr) tree {
	if len(ands) == 0 {
		return t
	}
	cond, _ := expr.All(ands) // no longer than the condition whose Ands they are
	return over(api.LNode{Op: api.LFilter, Cond: cond}, t)
}

// width is how many columns a tree has.
func width(t tree) int {
	kinds, _ := logic.Kinds(laid(t))
	return len(kinds)
}

// filterOverJoin asks the join's Cond, too: that one is asked of fewer pairs, when a filter goes ahead of it.
func filterOverJoin(t tree) (tree, bool) {
	if !t.stands(api.LFilter, api.LJoin) || isUnsafe(t.Cond) || isUnsafe(t.parts[0].Cond) {
		return tree{}, false
	}
	join := t.parts[0]
	a, b := join.parts[0], join.parts[1]
	toLeft, toRight, stay := sides(t.Cond, width(a), join.Left)
	if len(toLeft) == 0 && len(toRight) == 0 {
		return tree{}, false
	}
	return filtered(over(join.LNode, filtered(a, toLeft), filtered(b, toRight)), stay), true
}

// projectOverProject asks of all the lower items that they are safe, for one that the upper ones do not ask for is not asked any more.
func projectOverProject(t tree) (tree, bool) {
	if !t.stands(api.LProject, api.LProject) || slices.ContainsFunc(t.parts[0].Items, isUnsafe) {
		return tree{}, false
	}
	lower := t.parts[0]
	var items []api.Expr
	for _, item := range t.Items {
		put, e := expr.Put(item, lower.Items)
		if e != api.OK {
			return tree{}, false
		}
		items = append(items, put)
	}
	return over(api.LNode{Op: api.LProject, Items: items}, lower.parts...), true
}

func distinctOverDistinct(t tree) (tree, bool) {
	if !t.stands(api.LDistinct, api.LDistinct) {
		return tree{}, false
	}
	return t.parts[0], true
}

// distinctOverGroup holds where no two rows can be alike: a group's keys, which are its first columns, are those of no other group.
func distinctOverGroup(t tree) (tree, bool) {
	if !t.stands(api.LDistinct, api.LProject) {
		return tree{}, false
	}
	project := t.parts[0]
	group := project.parts[0]
	if group.Op == api.LFilter {
		group = group.parts[0]
	}
	if group.Op != api.LGroup {
		return tree{}, false
	}
	for key := range group.Keys {
		isKey := func(item api.Expr) bool {
			return len(item.Nodes) == 1 && item.Nodes[0].Tag == api.ECol && item.Nodes[0].Col == key
		}
		if !slices.ContainsFunc(project.Items, isKey) {
			return tree{}, false
		}
	}
	return project, true
}
