package worker_test

import (
	"slices"
	"testing"

	"bowsprit/api"
)

// epochs are such as there are, and such as there are not.
func epochs() []int {
	return append(far(), numbers(-3, 40)...)
}

// P26.5: what a worker knows of each epoch: of those that it has, of those that it was told to drop, of others, of what is no epoch.
func TestKnows(t *testing.T) {
	for _, w := range []api.Worker{full(0), full(3), plain(0), plain(2)} {
		for _, e := range epochs() {
			want := 0
			switch {
			case len(w.Tasks) > 0 && slices.Contains([]int{1, 3, 7, 11, 12}, e):
				want = 1
			case len(w.Tasks) > 0 && slices.Contains([]int{2, 8}, e):
				want = 2
			}
			knows(t, w, e, want)
		}
	}
	for e := 1; e <= api.MaxEpochs; e++ {
		w := plain(1)
		w.Has = setOf(e)
		for _, other := range epochs() {
			knows(t, w, other, map[bool]int{true: 1}[other == e])
		}
		w.Has, w.Gone = 0, setOf(e)
		for _, other := range epochs() {
			knows(t, w, other, map[bool]int{true: 2}[other == e])
		}
		w.Has = setOf(numbers(1, api.MaxEpochs)...) &^ setOf(e)
		for _, other := range numbers(1, api.MaxEpochs) {
			knows(t, w, other, map[bool]int{true: 2, false: 1}[other == e])
		}
	}
}

// P26.5: the rows of the first task of the epoch that is done and of WayRoot, at whichever node; of no other one.
func TestRows(t *testing.T) {
	for node := range sites + 1 {
		w := full(node)
		for _, e := range epochs() {
			switch e {
			case 11:
				hasRows(t, w, e, list("5 / 1 / 5")) // as they stand
			case 12:
				hasRows(t, w, e, nil)
			default:
				hasNone(t, w, e)
			}
		}
		p := func(epoch, number int) place { return place{node, epoch, number} }
		sending := changing(ended(p(5, 1), "3"), func(x *api.Task) {
			s := holds(1, 1)
			s.Session = 5
			x.State, x.Outs = api.TaskSends, []api.Out{goes(1, s, "")}
		})
		fallen := changing(fell(p(5, 2), api.ErrOver), func(x *api.Task) { x.Frag.Way = api.WayRoot })
		waiting := changing(gathers(p(5, 3)), func(x *api.Task) { x.Frag.Way, x.Frag.Cols = api.WayRoot, nil })
		others := []api.Task{done(p(5, 0)), sending, fallen, waiting}
		hasNone(t, having(plain(node), others...), 5)
		first := append(others, ended(p(5, 4), "7 / 7"))
		hasRows(t, having(plain(node), first...), 5, list("7 / 7"))
		hasRows(t, having(plain(node), append(first, ended(p(5, 5), "8"), ended(p(6, 0), "9"))...), 5, list("7 / 7"))
		hasRows(t, having(plain(node), ended(p(4, 9), "1"), ended(p(5, 0), ""), ended(p(5, 1), "8"), ended(p(6, 0), "9")), 5, nil)
		hasRows(t, having(plain(node), ended(p(4, 9), "1"), ended(p(6, 0), "9")), 6, list("9"))
		hasNone(t, having(plain(node), ended(p(4, 9), "1"), ended(p(6, 0), "9")), 5)
		for way := -1; way <= 6; way++ {
			x := changing(done(p(5, 0)), func(x *api.Task) { x.Frag.Way = way })
			if way == api.WayRoot {
				hasRows(t, having(plain(node), x), 5, nil)
			} else {
				hasNone(t, having(plain(node), x), 5)
			}
		}
	}
}

// P26.5: rows are as they stand, of all widths and kinds, as many as there are.
func TestRowsOfAllKinds(t *testing.T) {
	rows := list("'b' 1 / NULL / S5 TRUE / 'a' / 1 2 3 4 5 6 7 8 9 10 11 12 13 14 15 16")
	rows = append(rows, api.Row{}, list("1")[0], api.Row{})
	x := ended(place{0, 1, 0}, "")
	x.Rows = rows
	hasRows(t, having(plain(0), x), 1, rows)
	x.Rows = counted(api.MaxList)
	slices.Reverse(x.Rows)
	hasRows(t, having(plain(0), x), 1, x.Rows)
}

// P26.5: why the first task of the epoch fell that did.
func TestFell(t *testing.T) {
	for node := range sites + 1 {
		w := full(node)
		for _, e := range epochs() {
			if e == 7 {
				isFallen(t, w, e, api.ErrOver) // the second one that fell says otherwise
			} else {
				isUp(t, w, e)
			}
		}
		p := func(epoch, number int) place { return place{node, epoch, number} }
		isFallen(t, having(plain(node), ended(p(5, 0), "1"), fell(p(5, 2), api.ErrFault), fell(p(5, 3), api.ErrOver), fell(p(6, 0), api.ErrOver)), 5, api.ErrFault)
		isFallen(t, having(plain(node), fell(p(4, 1), api.ErrFault), gathers(p(5, 0)), fell(p(5, 29), api.ErrOver)), 5, api.ErrOver)
		isUp(t, having(plain(node), fell(p(4, 1), api.ErrFault), gathers(p(5, 0)), sends(p(5, 1)), done(p(5, 2)), ended(p(5, 3), "1"), fell(p(6, 0), api.ErrOver)), 5)
	}
}

// P26.5: of a worker that may not be nothing is told, whatever it has.
func TestAskedOfNone(t *testing.T) {
	for _, w := range noWorkers() {
		for _, e := range epochs() {
			knows(t, w, e, 0)
			hasNone(t, w, e)
			isUp(t, w, e)
		}
	}
}

// P26.5: workers of chance, asked of each epoch.
func TestAskedByRule(t *testing.T) {
	m := newMaker(266)
	rows, fallen, known := 0, 0, map[int]int{}
	for range 250 {
		w := m.worker()
		if m.Intn(8) == 0 {
			w, _ = variant(w, m.Intn(things(w)))
		}
		for _, e := range numbers(-1, api.MaxEpochs+2) {
			known[asRule(t, "Knows", given{Worker: w, Epoch: e}).Knows]++
			if asRule(t, "Rows", given{Worker: w, Epoch: e}).Is {
				rows++
			}
			if asRule(t, "Fell", given{Worker: w, Epoch: e}).Is {
				fallen++
			}
		}
	}
	if rows < 60 || fallen < 300 || known[1] < 800 || known[2] < 400 {
		t.Error(rows, fallen, known)
	}
}
