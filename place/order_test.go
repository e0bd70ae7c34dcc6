package place_test

import (
	"slices"
	"testing"

	"bowsprit/api"
	"bowsprit/place"
)

// noLayouts are layouts that may not be of the chapter's catalog.
func noLayouts() []api.Layout {
	l := []api.Layout{{}, bare(chapters(), 9), layout(base(nil, counted(7)), base(nil, counted(6)))}
	for _, b := range noBases() {
		l = append(l, layout(b), layout(base(nil, nil), b), layout(b, base(nil, nil)))
	}
	return l
}

// R2: a catalog that may not be goes ahead of all else.
func TestCatalogAheadOfAll(t *testing.T) {
	bases := append(noBases(), base(list("1"), list("1")), base(list("1")))
	layouts := append(noLayouts(), layout(base(list("1"))), layout(base(list("1"), list("1")), base(nil, nil)))
	for _, c := range noCatalogs() {
		for _, l := range layouts {
			refuses(t, api.ErrCatalog, c, l)
		}
		for _, b := range bases {
			for _, nodes := range []int{-1, 0, 1, 2, 8, 9} {
				isNone[api.Layout](t, api.ErrCatalog)(place.Lay(c, b, nodes, nil))
			}
		}
		for table := -1; table < 6; table++ {
			for _, r := range []api.Row{nil, one("1"), one("1 1"), {{N: 1}}, one("1 'a' TRUE 1")} {
				for _, nodes := range []int{0, 1, 2, 9} {
					isNone[int](t, api.ErrCatalog)(place.Where(c, table, r, nodes))
				}
			}
		}
	}
}

// R2: a layout that may not be goes ahead of wrong numbers, and of what lies astray.
func TestLayoutAheadOfRest(t *testing.T) {
	c := chapters()
	for _, l := range noLayouts() {
		says(t, api.ErrLayout, c, l)
		if len(l.Parts) > 0 {
			says(t, api.ErrLayout, c, api.Layout{Parts: append(slices.Clone(l.Parts), base(list("1 / NULL"), nil))})
		}
	}
	both := layout(base(list("1"), nil), base(nil, counted(13)))
	says(t, api.ErrLayout, c, both)
	says(t, api.ErrScheme, c, layout(base(list("1"), nil), base(nil, counted(12))))
}

// R2: wrong numbers go ahead of what the scheme does not allow.
func TestArgAheadOfScheme(t *testing.T) {
	c := chapters()
	for _, l := range []api.Layout{
		layout(base(list("NULL"), nil), base(list("1"), nil)),
		layout(base(list("1"), nil), base(list("NULL"), nil)),
	} {
		for _, from := range []int{1, 2} {
			isNone[api.Layout](t, api.ErrScheme)(place.Move(c, l, 0, from, 0, 3-from))
			for _, to := range []int{0, 3, -1} {
				isNone[api.Layout](t, api.ErrArg)(place.Move(c, l, 0, from, 0, to))
			}
			for _, at := range []int{-1, 1} {
				isNone[api.Layout](t, api.ErrArg)(place.Move(c, l, 0, from, at, 3-from))
			}
			for _, none := range []int{0, 3} {
				isNone[api.Layout](t, api.ErrArg)(place.Move(c, l, 0, none, 0, from))
			}
			isNone[api.Layout](t, api.ErrArg)(place.Move(c, l, 2, from, 0, 3-from))
		}
	}
}
