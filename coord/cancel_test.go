package coord_test

import (
	"slices"
	"testing"

	"bowsprit/api"
)

// P28.2: of what runs a cancelled query is made, whatever its worker came to; Has stays, and the worker was told to drop it. Of what is over ErrReported.
func TestCancel(t *testing.T) {
	for _, c := range []api.Coord{full(), without(full())} {
		for k := range c.Entries {
			epoch := k + 1
			if !slices.Contains(fullRuns, epoch) {
				refuses(t, "Cancel", given{Coord: c, Epoch: epoch}, api.ErrReported)
				continue
			}
			after := cancels(t, c, epoch, ended(c, epoch, failed(api.ErrCancel, 0)))
			reports(t, after, epoch, failed(api.ErrCancel, 0))
			refuses(t, "Cancel", given{Coord: after, Epoch: epoch}, api.ErrReported)
			if x := after.Entries[k]; x.Has != c.Entries[k].Has || x.Gone != 0 {
				t.Error(x)
			}
		}
	}
}

// P28.2: ErrNone: of no epoch, of one beyond the entries.
func TestCancelOfNone(t *testing.T) {
	for count := range api.MaxEpochs + 1 {
		c := filled(count)
		for _, epoch := range append(numbers(-3, 40), far()...) {
			if epoch < 1 || epoch > count {
				refuses(t, "Cancel", given{Coord: c, Epoch: epoch}, api.ErrNone)
			}
		}
	}
	for _, epoch := range []int{-1, 0, 11, 12, 13} {
		refuses(t, "Cancel", given{Coord: full(), Epoch: epoch}, api.ErrNone)
	}
}

// P28.2: all are cancelled, one behind the other, in whatever order: each is told to all nodes.
func TestCancelAll(t *testing.T) {
	for _, order := range [][]int{{2, 5, 6, 7, 10}, {10, 7, 6, 5, 2}, {6, 10, 2, 7, 5}} {
		c := full()
		for _, epoch := range order {
			c = cancels(t, c, epoch, ended(c, epoch, failed(api.ErrCancel, 0)))
		}
		if len(c.Worker.Tasks) != 0 || c.Worker.Has != 0 {
			t.Error(c.Worker)
		}
		ticks(t, c, c, slices.Concat(drops(2, 1, 2, 3), drops(3, 1, 3), drops(5, 1, 2, 3), drops(6, 1, 2, 3), drops(7, 1, 2, 3), drops(8, 1, 2, 3), drops(10, 1, 2, 3))...)
	}
}
