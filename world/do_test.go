package world_test

import (
	"math/rand"
	"testing"

	"bowsprit/api"
)

// ofEachKind are events of each Kind, such as do something in midst, such as do not, and such as are refused.
func ofEachKind() []api.Event {
	num := midst().Net.Parcels[4].Num
	return []api.Event{
		submit(ofU), submit(unwise), submit(""), cancel(1), cancel(4), cancel(0), cancel(3), cancel(99), tick(0), tick(1), tick(3), tick(4), tick(-1),
		come(num), come(num + 1), come(0), lose(num), lose(num + 2), lose(1), drop(0, 1), drop(2, 0), drop(8, 7), drop(1, 1), drop(9, 0), twin(num), twin(0), spoilt(num, 3, 4), spoilt(num, 3, 0), spoilt(num, -1, 4), spoilt(0, 3, 4),
	}
}

// P29.2: ErrEvent: no such Kind: 0, one beyond the last, below 0, and far from all.
func TestKinds(t *testing.T) {
	t.Parallel()
	for _, w := range worlds() {
		for n, kind := range append(numbers(-3, 20), far()...) {
			for k, e := range ofEachKind() {
				if e.Kind = kind; (n+k)%3 > 0 {
					continue
				}
				got := asRule(t, "Do", given{World: w, Event: e})
				if isKind := kind >= api.EvSubmit && kind <= api.EvSpoil; (got.Err == api.ErrEvent) == isKind {
					t.Error(kind, got.Reply)
				}
				if got.Err != api.OK && (!same(got.World, w) || got.Reply.N != 0) {
					t.Error(kind, got.Reply)
				}
			}
		}
	}
}

// P29.2: ErrWorld goes ahead of all else, whatever happens; the world is as it was, though it may not be.
func TestErrWorldAheadOfAll(t *testing.T) {
	t.Parallel()
	for _, w := range noWorlds() {
		isWorld(t, false, w)
		denies(t, w, api.ErrWorld, append(ofEachKind(), api.Event{}, api.Event{Kind: 9}, api.Event{Kind: -1})...)
		for _, n := range []int{-1, 0, 1, api.MaxRounds, api.MaxRounds + 1} {
			refuses(t, "Rounds", given{World: w, N: n}, api.ErrWorld)
		}
		refuses(t, "Layout", given{World: w}, api.ErrWorld)
		isSame(t, true, w, copyOf(w))
	}
}

// P29.2: what does not count is not asked: whatever stands in the other fields of an event, it does the same.
func TestWhatDoesNotCount(t *testing.T) {
	chance := rand.New(rand.NewSource(2921))
	for _, w := range worlds() {
		for _, e := range append(ofEachKind(), api.Event{}, api.Event{Kind: 9}) {
			want := asRule(t, "Do", given{World: w, Event: e})
			for range 6 {
				n := func() int { return []int{-1, 0, 1, 2, 3, 9, 1 << 40}[chance.Intn(7)] }
				other := api.Event{Kind: e.Kind, Text: []string{"", ofU, unwise, "\xff"}[chance.Intn(4)], Epoch: n(), Node: n(), To: n(), At: n(), Num: uint64(n()), By: byte(n())}
				switch e.Kind {
				case api.EvSubmit:
					other.Text = e.Text
				case api.EvCancel:
					other.Epoch = e.Epoch
				case api.EvTick:
					other.Node = e.Node
				case api.EvDrop:
					other.Node, other.To = e.Node, e.To
				case api.EvSpoil:
					other.Num, other.At, other.By = e.Num, e.At, e.By
				default:
					other.Num = e.Num
				}
				if got := asRule(t, "Do", given{World: w, Event: other}); !same(got, want) {
					t.Errorf("%v: %v, %v", other, got.Reply, want.Reply)
				}
			}
		}
	}
}

// P29.2: of whatever error the world is as it was, and N is 0: each of those that an event may have was met, in the midst of the work too.
func TestErrorsOfEvents(t *testing.T) {
	met := tally{}
	full := midst()
	for len(full.Coord.Entries) < api.MaxEpochs {
		full = reached(full, submit(unwise))
	}
	full = reached(full, spoilt(full.Net.Parcels[0].Num, 0, 1))
	for _, w := range []api.World{full, with(plain(), api.Parcel{Num: api.MaxSent, From: 1})} {
		events := append(ofEachKind(), api.Event{}, submit(ofU), spoilt(full.Net.Parcels[0].Num, 0, 1), twin(api.MaxSent))
		for _, e := range events {
			got := asRule(t, "Do", given{World: w, Event: e})
			if met[got.Err]++; got.Err != api.OK {
				refuses(t, "Do", given{World: w, Event: e}, got.Err)
			}
		}
	}
	met.metAll(t, api.OK, api.ErrEvent, api.ErrArg, api.ErrNone, api.ErrFull, api.ErrThere, api.ErrReported)
}
