package world_test

import (
	"math"
	"math/rand"
	"reflect"
	"slices"
	"testing"

	"bowsprit/api"
)

// noWorlds are worlds that may not be, each for another reason, at their beginning and in the midst of their work.
func noWorlds() []api.World {
	l := []api.World{{}, stuffed()}
	for k, change := range []func(w *api.World){
		func(w *api.World) { w.Coord.Worker.Node = 1 }, func(w *api.World) { w.Coord.Worker.Gone |= 1 }, func(w *api.World) { w.Coord.Entries = append(w.Coord.Entries, api.Entry{}) }, func(w *api.World) { w.Coord.Worker.Sites-- },
		func(w *api.World) { w.Workers = w.Workers[1:] }, func(w *api.World) { w.Workers = append(w.Workers, w.Workers[0]) }, func(w *api.World) { w.Workers[2].Node = 2 }, func(w *api.World) { w.Workers[1].Sites++ }, func(w *api.World) { w.Workers[1].Gone |= 1 },
		func(w *api.World) { w.Workers[0].Catalog.Tables[1].Name = "v" }, func(w *api.World) { w.Workers[0].Tables = nil }, func(w *api.World) { w.Workers[1].Tasks = append(w.Workers[1].Tasks, api.Task{}) }, func(w *api.World) { slices.Reverse(w.Workers) },
		func(w *api.World) { w.Workers[1].Tables[0] = w.Workers[2].Tables[0] }, func(w *api.World) { w.Workers[1].Tables[1] = list("1 / 2 / 3 / 4 / 5 / 6 / 7 / 8 / 9 / 10 / 11 / 12") },
		func(w *api.World) { w.Net.Sent = api.MaxSent + 1 }, func(w *api.World) { w.Net.Parcels = append(w.Net.Parcels, api.Parcel{}) }, func(w *api.World) { w.Net = api.Net{Sent: 1, Parcels: many(2, 1)} },
	} {
		w := []api.World{plain(), midst(), done()}[k%3]
		l = append(l, of(w, change))
	}
	return l
}

// strew changes a thing here and there by chance.
func strew(chance *rand.Rand, v reflect.Value) {
	odd := []uint64{0, 1, 2, 3, 4, 5, 7, 8, 9, 12, 13, 29, 30, 31, 32, 64, 140, 300, 371, 1 << 40, math.MaxInt64, 1 << 63, math.MaxUint64}
	n := odd[chance.Intn(len(odd))]
	here := chance.Intn(300) == 0
	switch v.Kind() {
	case reflect.Struct:
		for k := range v.NumField() {
			strew(chance, v.Field(k))
		}
	case reflect.Slice:
		for k := range v.Len() {
			strew(chance, v.Index(k))
		}
		switch {
		case here && v.Len() > 0 && chance.Intn(2) == 0:
			v.Set(reflect.AppendSlice(v, v.Slice(0, 1+chance.Intn(v.Len()))))
		case here && v.Len() > 0:
			v.SetLen(chance.Intn(v.Len()))
		case here:
			v.Set(reflect.MakeSlice(v.Type(), 1+chance.Intn(3), 4))
		}
	case reflect.Bool:
		v.SetBool(v.Bool() != here)
	case reflect.String:
	default:
		switch {
		case !here:
		case v.CanInt() && chance.Intn(2) == 0:
			v.SetInt(v.Int() + int64(n%3) - 1)
		case v.CanInt():
			v.SetInt(int64(n))
		case chance.Intn(2) == 0:
			v.SetUint(v.Uint() + n%3 - 1)
		default:
			v.SetUint(n)
		}
	}
}

// R1, R2: whatever is handed in, each call ends, and answers what it is to by rule; beside an error there is nothing, or the world as it was.
func TestWhatever(t *testing.T) {
	t.Parallel()
	m := newMaker(297)
	met, changed := map[string]tally{}, 0
	all := append(worlds(), begun(), behind(begun(), 1), behind(reached(begun(), submit(ofBoth)), 3))
	for range 450 {
		w := all[m.Intn(len(all))]
		g := given{World: w, Other: w, Event: m.event(w), Catalog: tables(), Layout: parts(), N: m.Intn(4)}
		for range m.Intn(9) {
			g.Events = append(g.Events, m.event(w))
		}
		g = copyOf(g)
		strew(m.Rand, reflect.ValueOf(&g).Elem())
		if m.oneIn(2) {
			g.World = copyOf(w)
		}
		g.N = min(g.N, api.MaxRounds+3)
		for _, name := range names() {
			got := asRule(t, name, g)
			if met[name] == nil {
				met[name] = tally{}
			}
			met[name][got.Err]++
			if got.Err != api.OK && !same(got, besideError(name, g, got.Err)) {
				t.Errorf("%v of %v: %v", name, g, got)
			}
			if name == "Do" && got.Err == api.OK && !same(got.World, g.World) {
				changed++
			}
		}
	}
	met["New"].metAll(t, api.OK, api.ErrCatalog, api.ErrLayout, api.ErrScheme)
	for _, name := range []string{"Check", "Layout"} {
		met[name].metAll(t, api.OK, api.ErrWorld)
		if met[name][api.OK] < 150 || met[name][api.ErrWorld] < 100 {
			t.Error(name, met[name])
		}
	}
	if changed < 50 || len(met["Do"]) < 5 || met["Rounds"][api.OK] < 100 {
		t.Error(changed, met)
	}
}
