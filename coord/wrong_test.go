package coord_test

import (
	"math"
	"math/rand"
	"reflect"
	"slices"
	"testing"

	"bowsprit/api"
)

// noCoords are coordinators that may not be, each for another reason, with queries that run, and such as are over.
func noCoords() []api.Coord {
	l := []api.Coord{{}, stuffed(), filled(api.MaxEpochs + 1)}
	for _, change := range []func(c *api.Coord){
		func(c *api.Coord) { c.Worker.Sites = 0 }, func(c *api.Coord) { c.Worker.Sites++ }, func(c *api.Coord) { c.Worker.Node = 1 }, func(c *api.Coord) { c.Worker.Catalog.Tables[0].Name = "T" }, func(c *api.Coord) { c.Worker.Tables = [][]api.Row{nil, nil} },
		func(c *api.Coord) { c.Worker.Has |= setOf(11) }, func(c *api.Coord) { c.Worker.Gone |= setOf(11) }, func(c *api.Coord) { c.Worker.Has |= setOf(1) }, func(c *api.Coord) { c.Worker.Gone &^= setOf(3) }, func(c *api.Coord) { c.Worker.Has &^= setOf(10) },
		func(c *api.Coord) { c.Worker.Tasks[0].Epoch = 1 }, func(c *api.Coord) { c.Worker.Tasks[1].Rows[0][0].U = 1 }, func(c *api.Coord) { slices.Reverse(c.Worker.Tasks) },
		func(c *api.Coord) { slices.Reverse(c.Entries) }, func(c *api.Coord) { c.Entries[0].Has = 2 }, func(c *api.Coord) { c.Entries[0].Gone = 2 }, func(c *api.Coord) { c.Entries[1].Gone = 2 }, func(c *api.Coord) { c.Entries[1].Has |= 1 }, func(c *api.Coord) { c.Entries[2].Gone |= setOf(4) },
		func(c *api.Coord) { c.Entries[0].Life.Epoch = 0 }, func(c *api.Coord) { c.Entries[2].Life.State = 1 }, func(c *api.Coord) { c.Entries[1].Life = over(2, failed(api.ErrFault, 0)) }, func(c *api.Coord) { c.Entries[3].Life = runs(4, small()) }, func(c *api.Coord) { c.Entries[9].Life.Program.Plan.Frags = nil },
		func(c *api.Coord) { c.Entries[2].Life.Report.Rows[0][0].S = "a" }, func(c *api.Coord) { c.Entries[2].Life.Report.Names = nil }, func(c *api.Coord) { c.Entries[3].Life.Report.At = 4 },
	} {
		l = append(l, of(full(), change))
	}
	return l
}

// P28.2 to P28.4: ErrCoord goes ahead of all else, whatever stands beside it: texts, epochs and messages that may be and that may not.
func TestErrCoordAheadOfAll(t *testing.T) {
	for _, c := range noCoords() {
		isCoord(t, false, c)
		for _, text := range []string{"SELECT c FROM u", "SELECT zz FROM u", "", long(api.MaxSource + 1)} {
			refuses(t, "Submit", given{Coord: c, Text: text}, api.ErrCoord)
		}
		for epoch := -1; epoch <= api.MaxEpochs+2; epoch++ {
			refuses(t, "Cancel", given{Coord: c, Epoch: epoch}, api.ErrCoord)
			for _, m := range ofEachKind(epoch, 2) {
				refuses(t, "Hear", given{Coord: c, Msg: m}, api.ErrCoord)
			}
		}
		refuses(t, "Hear", given{Coord: c}, api.ErrCoord)
		refuses(t, "Tick", given{Coord: c}, api.ErrCoord)
		isSame(t, true, c, copyOf(c))
	}
}

// strew changes a thing here and there by chance.
func strew(chance *rand.Rand, v reflect.Value) {
	odd := []uint64{0, 1, 2, 3, 4, 5, 7, 8, 9, 12, 13, 29, 30, 31, 32, 64, 140, 300, 371, 1 << 40, math.MaxInt64, 1 << 63, math.MaxUint64}
	n := odd[chance.Intn(len(odd))]
	here := chance.Intn(300) == 0
	switch v.Kind() {
	case reflect.Struct:
		for k := range v.NumField() {
			strew(chance, v.Field(k))
		}
	case reflect.Slice:
		for k := range v.Len() {
			strew(chance, v.Index(k))
		}
		switch {
		case here && v.Len() > 0 && chance.Intn(2) == 0:
			v.Set(reflect.AppendSlice(v, v.Slice(0, 1+chance.Intn(v.Len()))))
		case here && v.Len() > 0:
			v.SetLen(chance.Intn(v.Len()))
		case here:
			v.Set(reflect.MakeSlice(v.Type(), 1+chance.Intn(3), 4))
		}
	case reflect.Bool:
		v.SetBool(v.Bool() != here)
	case reflect.String:
	default:
		switch {
		case !here:
		case v.CanInt() && chance.Intn(2) == 0:
			v.SetInt(v.Int() + int64(n%3) - 1)
		case v.CanInt():
			v.SetInt(int64(n))
		case chance.Intn(2) == 0:
			v.SetUint(v.Uint() + n%3 - 1)
		default:
			v.SetUint(n)
		}
	}
}

// R1, R2: whatever is handed in, each call ends, and answers what it is to by rule; beside an error there is nothing.
func TestWhatever(t *testing.T) {
	m := newMaker(287)
	met, changed := map[string]tally{}, 0
	for range 1500 {
		g := given{Coord: m.coord(), Catalog: tables(), Sites: 1 + m.Intn(api.MaxSites), Epoch: m.Intn(14), Text: m.text(tables())}
		g.Msg, g.Other = m.msg(g.Coord), g.Coord
		g = copyOf(g)
		strew(m.Rand, reflect.ValueOf(&g).Elem())
		for _, name := range names() {
			got := asRule(t, name, g)
			if met[name] == nil {
				met[name] = tally{}
			}
			met[name][got.Err]++
			if got.Err != api.OK && !same(got, answer{Err: got.Err}) {
				t.Errorf("%v of %v: %v", name, g, got)
			}
			if slices.Contains(becoming(), name) && got.Err == api.OK && !same(got.Coord, g.Coord) {
				changed++
			}
		}
	}
	met["New"].metAll(t, api.OK, api.ErrCatalog, api.ErrArg)
	met["Submit"].metAll(t, api.OK, api.ErrCoord, api.ErrFull)
	met["Cancel"].metAll(t, api.OK, api.ErrCoord, api.ErrNone, api.ErrReported)
	for _, name := range []string{"Check", "Hear", "Tick"} {
		met[name].metAll(t, api.OK, api.ErrCoord)
		if met[name][api.OK] < 400 || met[name][api.ErrCoord] < 400 {
			t.Error(name, met[name])
		}
	}
	if changed < 1000 {
		t.Error(changed)
	}
}
