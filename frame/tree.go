package frame

import "bowsprit/api"

// partsOfOp is how many parts an operator has; none of what is no operator, either.
func partsOfOp(op int) int {
	switch op {
	case api.LJoin, api.LUnion:
		return 2
	case api.LFilter, api.LGroup, api.LProject, api.LDistinct, api.LSort, api.LPartial, api.LFinal:
		return 1
	}
	return 0
}

// partsOfTag is how many parts a node of an expression has; none of what is no such tag, either.
func partsOfTag(tag int) int {
	switch {
	case within(tag, api.NNeg, api.NNotNull):
		return 1
	case within(tag, api.NAdd, api.NOr):
		return 2
	}
	return 0
}

// loose are the places of nodes that are nobody's part yet.
type loose []int

// take tells the places of a node's parts, which in a tree's order are the last ones that are nobody's yet; -1 is none. Where there are too few, or some are nobody's in the end, the nodes make no tree, and may not be.
func (l *loose) take(parts, place int) (int, int) {
	places := [2]int{-1, -1}
	for k := parts - 1; k >= 0 && len(*l) > 0; k-- {
		last := len(*l) - 1
		places[k] = (*l)[last]
		*l = (*l)[:last]
	}
	*l = append(*l, place)
	return places[0], places[1]
}
