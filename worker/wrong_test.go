package worker_test

import (
	"math"
	"math/rand"
	"reflect"
	"slices"
	"testing"

	"bowsprit/api"
)

// noWorkers are workers that may not be, each for another reason, with rows, with tasks that fell, with epochs that they would know.
func noWorkers() []api.Worker {
	l := []api.Worker{{}, stuffed(), {Sites: api.MaxSites + 1}, {Sites: 1, Node: 2}}
	deeds := []func(w *api.Worker){
		func(w *api.Worker) { w.Sites = 0 }, func(w *api.Worker) { w.Sites = api.MaxSites + 1 }, func(w *api.Worker) { w.Sites++ }, func(w *api.Worker) { w.Node = -1 }, func(w *api.Worker) { w.Node = w.Sites + 1 }, func(w *api.Worker) { w.Node = (w.Node + 1) % 5 },
		func(w *api.Worker) { w.Catalog.Tables[0].Name = "T" }, func(w *api.Worker) { w.Catalog.Tables[1].Name = "t" }, func(w *api.Worker) { w.Catalog.Tables[1].Columns[0].Kind = ks }, func(w *api.Worker) { w.Catalog.Tables[0].Keys[0] = 2 },
		func(w *api.Worker) { w.Tables = append(w.Tables, nil) }, func(w *api.Worker) { w.Tables = [][]api.Row{nil, ones(api.MaxTable + 1)} }, func(w *api.Worker) { w.Tables = [][]api.Row{nil, list("'a'")} }, func(w *api.Worker) { w.Tables = [][]api.Row{nil, list("1 1")} }, func(w *api.Worker) { w.Tables = [][]api.Row{nil, wrongRows()[:1]} },
		func(w *api.Worker) { w.Has |= 1 }, func(w *api.Worker) { w.Has |= setOf(13) }, func(w *api.Worker) { w.Gone |= 1 }, func(w *api.Worker) { w.Gone |= setOf(31) }, func(w *api.Worker) { w.Gone |= setOf(3) }, func(w *api.Worker) { w.Has |= setOf(2) }, func(w *api.Worker) { w.Has &^= setOf(12) }, func(w *api.Worker) { w.Has, w.Gone = w.Gone, w.Has },
		func(w *api.Worker) { w.Tasks[0], w.Tasks[1] = w.Tasks[1], w.Tasks[0] }, func(w *api.Worker) { slices.Reverse(w.Tasks) }, func(w *api.Worker) { w.Tasks = append(w.Tasks, w.Tasks[8]) }, func(w *api.Worker) { w.Tasks[4].Number = 1 }, func(w *api.Worker) { w.Tasks = append(w.Tasks, api.Task{}) },
		func(w *api.Worker) { w.Tasks[8].Sites = 5 }, func(w *api.Worker) { w.Tasks[8].Node ^= 1 }, func(w *api.Worker) { w.Tasks[8].Err = api.ErrOver }, func(w *api.Worker) { w.Tasks[3].Err = 0 }, func(w *api.Worker) { w.Tasks[2].Frag.Nodes = nil }, func(w *api.Worker) { w.Tasks[1].Ins[0].From = 9 },
	}
	for _, node := range []int{0, 2} {
		for _, do := range deeds {
			l = append(l, changing(full(node), do))
		}
	}
	return l
}

// P26.3, P26.4: ErrWorker goes ahead of all else, whatever stands beside it: messages that may be and that may not, to it and to others.
func TestErrWorkerAheadOfAll(t *testing.T) {
	for _, w := range noWorkers() {
		isWorker(t, false, w)
		refused := func(got answer) {
			t.Helper()
			if !same(got, answer{Err: api.ErrWorker}) {
				t.Errorf("%v: %v, not ErrWorker", short(w), got)
			}
		}
		for _, m := range []api.Msg{planned(small(), 4, w.Node, w.Sites), planned(small(), 3, w.Node, w.Sites), planned(noPlans()[0], 2, w.Node, sites), dropped(3, w.Node), dropped(4, 7), data(3, 2, 0, w.Node, 1, batch(1)), ack(3, 2, 1, w.Node, 1, 9), failed(3, 1, api.ErrFault), {}, planned(api.Plan{}, 99, -1, -1)} {
			refused(asRule(t, "Hear", given{Worker: w, Msg: m}))
		}
		refused(asRule(t, "Tick", given{Worker: w}))
		isSame(t, true, w, copyOf(w))
	}
}

// strew changes a thing here and there by chance.
func strew(chance *rand.Rand, v reflect.Value) {
	odd := []uint64{0, 1, 2, 3, 4, 5, 7, 8, 9, 12, 13, 29, 30, 31, 32, 64, api.MaxSeq, math.MaxInt64, 1 << 63, math.MaxUint64}
	n := odd[chance.Intn(len(odd))]
	here := chance.Intn(300) == 0
	switch v.Kind() {
	case reflect.Struct:
		for k := range v.NumField() {
			strew(chance, v.Field(k))
		}
	case reflect.Slice:
		for k := range v.Len() {
			strew(chance, v.Index(k))
		}
		switch {
		case here && v.Len() > 0 && chance.Intn(2) == 0:
			v.Set(reflect.AppendSlice(v, v.Slice(0, 1+chance.Intn(v.Len()))))
		case here && v.Len() > 0:
			v.SetLen(chance.Intn(v.Len()))
		case here:
			v.Set(reflect.MakeSlice(v.Type(), 1+chance.Intn(3), 4))
		}
	case reflect.Bool:
		v.SetBool(v.Bool() != here)
	case reflect.String:
	default:
		switch {
		case !here:
		case v.CanInt() && chance.Intn(2) == 0:
			v.SetInt(v.Int() + int64(n%3) - 1)
		case v.CanInt():
			v.SetInt(int64(n))
		case chance.Intn(2) == 0:
			v.SetUint(v.Uint() + n%3 - 1)
		default:
			v.SetUint(n)
		}
	}
}

// R1, R2: whatever is handed in, each call ends, and answers what it is to by rule; beside an error there is nothing.
func TestWhatever(t *testing.T) {
	m := newMaker(267)
	met, changed := map[string]tally{}, 0
	for range 1200 {
		w := m.worker()
		w.Tasks = w.Tasks[:min(len(w.Tasks), 1+m.Intn(6))]
		g := given{Worker: w, Msg: m.msg(w), Catalog: tables(), Sites: sites, Node: m.Intn(3), Epoch: m.Intn(14), Tables: plain(1).Tables}
		if g.Node == 0 {
			g.Tables = nil
		}
		g.Other = g.Worker
		g = copyOf(g)
		strew(m.Rand, reflect.ValueOf(&g).Elem())
		for _, name := range names() {
			got := asRule(t, name, g)
			if met[name] == nil {
				met[name] = tally{}
			}
			met[name][got.Err]++
			if name != "Fell" && got.Err != api.OK && !same(got, answer{Err: got.Err}) {
				t.Errorf("%v of %v: %v", name, g, got)
			}
			if slices.Contains(becoming()[1:], name) && got.Err == api.OK && !same(got.Worker, g.Worker) {
				changed++
			}
		}
	}
	met["New"].metAll(t, api.OK, api.ErrCatalog, api.ErrArg, api.ErrBase)
	for _, name := range []string{"Check", "Hear", "Tick"} {
		met[name].metAll(t, api.OK, api.ErrWorker)
		if met[name][api.OK] < 200 || met[name][api.ErrWorker] < 200 {
			t.Error(name, met[name])
		}
	}
	if changed < 200 {
		t.Error(changed)
	}
}
