package query_test

import (
	"testing"

	"bowsprit/api"
)

// P27.1 to P27.3: the chapter's examples, one behind the other.
func TestChapter(t *testing.T) {
	c := cat(tab("t", "a int"))
	first := asRule(t, "Begin", given{Catalog: c, Epoch: 1, Text: "SELECT a FROM t"})
	p := planOf(onAll(api.WayGather, scan(0, ki), picked(0), sortBy(-1)), root(input(0, ki), sortBy(-1)))
	if first.Err != api.OK || !same(first.Life, runs(1, p, "a")) {
		t.Fatal(first)
	}
	reads(t, first.Life, "")
	done := ends(t, "Rows", given{Life: first.Life, Rows: list("1 / 2")}, has(list("1 / 2"), "a"))
	reads(t, done, "ok 2\n1\n2\n")
	second := asRule(t, "Begin", given{Catalog: c, Epoch: 2, Text: "SELECT b FROM t"})
	if second.Err != api.OK || !same(second.Life, over(2, failed(api.ErrName, 4))) {
		t.Fatal(second)
	}
	reads(t, second.Life, "error 222 4\n")
	for _, l := range []api.Life{done, second.Life} {
		refuses(t, "Cancel", given{Life: l}, api.ErrReported)
		refuses(t, "Rows", given{Life: l, Rows: list("1")}, api.ErrReported)
		refuses(t, "Fail", given{Life: l, Err: api.ErrFault}, api.ErrReported)
	}
	refuses(t, "Fail", given{Life: first.Life, Err: api.ErrArg}, api.ErrArg)
	reads(t, ends(t, "Fail", given{Life: first.Life, Err: api.ErrFault}, failed(api.ErrFault, 0)), "error 140 0\n")
	reads(t, ends(t, "Cancel", given{Life: first.Life}, failed(api.ErrCancel, 0)), "error 371 0\n")
}
