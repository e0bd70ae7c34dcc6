package prop

import (
	"iter"
	"slices"

	"bowsprit/api"
	"bowsprit/catalog"
)

// readers goes over the LInputs that read the fragment of a number: the number of each one's own fragment, and its place there.
func readers(p api.Plan, number int) iter.Seq2[int, int] {
	return func(yield func(int, int) bool) {
		for frag, f := range p.Frags {
			for place, n := range f.Nodes {
				if n.Op == api.LInput && n.Table == number && !yield(frag, place) {
					return
				}
			}
		}
	}
}

// checker is a plan that is asked whether it may be, over a catalog.
type checker struct {
	api.Plan
	catalog api.Catalog
	kinds   [][][]int // of the columns of each node of each fragment that was asked
}

// checked is a plan that may be, with all its kinds; or a fragment's number, a place there, and an error.
func checked(p api.Plan, c api.Catalog) (checker, int, int, api.Errno) {
	if e := catalog.Check(c); e != api.OK {
		return checker{}, 0, 0, e
	}
	if !within(len(p.Frags), 1, api.MaxFrags) {
		return checker{}, 0, 0, api.ErrPlan
	}
	k := checker{Plan: p, catalog: c}
	for frag, f := range p.Frags {
		kinds, place, e := Kinds(f.Nodes)
		if e == api.OK && !k.isFrag(f, kinds[len(kinds)-1]) {
			e = api.ErrFrag
		}
		if e != api.OK {
			return checker{}, frag, place, e
		}
		k.kinds = append(k.kinds, kinds)
	}
	if frag, found := k.astray(); found {
		return checker{}, frag, 0, api.ErrPlan
	}
	return k, 0, 0, api.OK
}

// isFrag tells whether a fragment may be, whose nodes may be, and whose root's columns are of kinds.
func (k checker) isFrag(f api.Frag, root []int) bool {
	isAstray := func(n api.LNode) bool { return n.Op == api.LScan && !k.isScan(f, n) }
	if !within(f.At, api.AtAll, api.AtOne) || slices.ContainsFunc(f.Nodes, isAstray) {
		return false
	}
	if f.Way != api.WayShuffle {
		return within(f.Way, api.WayCast, api.WayRoot) && len(f.Cols) == 0
	}
	noColumn := func(col int) bool { return !within(col, 0, len(root)-1) || root[col] == api.VSum }
	return within(len(f.Cols), 1, api.MaxWidth) && !slices.ContainsFunc(f.Cols, noColumn)
}

func (k checker) isScan(f api.Frag, n api.LNode) bool {
	if f.At != api.AtAll || n.Table >= len(k.catalog.Tables) {
		return false
	}
	isOf := func(c api.Column, kind int) bool { return c.Kind == kind }
	return slices.EqualFunc(k.catalog.Tables[n.Table].Columns, n.Kinds, isOf)
}

// astray is the number of the first fragment with which the plan may not be, each of whose fragments may be.
func (k checker) astray() (frag int, found bool) {
search:
	for number, f := range k.Frags {
		for _, n := range f.Nodes {
			if n.Op == api.LInput && !k.comes(n, number) {
				frag, found = number, true
				break search
			}
		}
		if !k.goesOn(number) {
			frag, found = number, true
			break search
		}
	}
	return frag, found
}

// rootKinds are the kinds of the columns that come of a fragment.
func (k checker) rootKinds(frag int) []int {
	kinds := k.kinds[frag]
	return kinds[len(kinds)-1]
}

// comes tells whether an LInput reads a fragment that is ahead of its own one, and as that one's rows are.
func (k checker) comes(input api.LNode, frag int) bool {
	return input.Table < frag && slices.Equal(input.Kinds, k.rootKinds(input.Table))
}

// readAt is where the reader of what goes on by a Way runs; nowhere of WayRoot.
func readAt(way int) int {
	switch way {
	case api.WayShuffle, api.WayCast:
		return api.AtAll
	case api.WayGather:
		return api.AtOne
	}
	return 0
}

// goesOn tells whether a fragment's rows go where they must: those of the last one to nobody else, those of each other one to just one LInput.
func (k checker) goesOn(frag int) bool {
	f, count := k.Frags[frag], 0
	for reader := range readers(k.Plan, frag) {
		if k.Frags[reader].At != readAt(f.Way) {
			return false
		}
		count++
	}
	if frag < len(k.Frags)-1 {
		return count == 1
	}
	return count == 0 && f.Way == api.WayRoot && f.At == api.AtOne && !slices.Contains(k.rootKinds(frag), api.VSum)
}
