package world_test

import (
	"reflect"
	"testing"

	"bowsprit/api"
	"bowsprit/world"
)

// eachList goes to all lists that a thing has, those within lists too.
func eachList(v reflect.Value, visit func(reflect.Value)) {
	switch v.Kind() {
	case reflect.Struct:
		for k := range v.NumField() {
			eachList(v.Field(k), visit)
		}
	case reflect.Slice:
		for k := range v.Len() {
			eachList(v.Index(k), visit)
		}
		visit(v)
	}
}

// fill changes a thing, whatever is in it; of a list it makes another one.
func fill(v reflect.Value) {
	switch v.Kind() {
	case reflect.Slice:
		other := reflect.MakeSlice(v.Type(), v.Len()+1, v.Len()+1)
		fill(other.Index(v.Len()))
		v.Set(other)
	case reflect.Struct:
		for k := range v.NumField() {
			fill(v.Field(k))
		}
	case reflect.Int, reflect.Int64:
		v.SetInt(v.Int() ^ 0x55)
	case reflect.Uint8, reflect.Uint32, reflect.Uint64:
		v.SetUint(v.Uint() ^ 0x55)
	case reflect.String:
		v.SetString(v.String() + "spoiled")
	case reflect.Bool:
		v.SetBool(!v.Bool())
	}
}

// roomy is a thing with memory of its own: each list has room behind its end, and in that something.
func roomy[T any](x T) T {
	x = copyOf(x)
	eachList(reflect.ValueOf(&x).Elem(), func(v reflect.Value) {
		room := reflect.MakeSlice(v.Type(), v.Len()+3, v.Len()+3)
		reflect.Copy(room, v)
		for k := v.Len(); k < room.Len(); k++ {
			fill(room.Index(k))
		}
		v.Set(room.Slice(0, v.Len()))
	})
	return x
}

// whole is a copy of a thing whose lists have what stands in the room behind their ends, too.
func whole[T any](x T) T {
	var deep func(v reflect.Value)
	deep = func(v reflect.Value) {
		switch v.Kind() {
		case reflect.Struct:
			for k := range v.NumField() {
				deep(v.Field(k))
			}
		case reflect.Slice:
			l := reflect.MakeSlice(v.Type(), v.Cap(), v.Cap())
			reflect.Copy(l, v.Slice(0, v.Cap()))
			for k := range v.Len() {
				deep(l.Index(k))
			}
			v.Set(l)
		}
	}
	deep(reflect.ValueOf(&x).Elem())
	return x
}

// spoil changes all that a thing's lists have, and the room behind them.
func spoil[T any](x T) {
	eachList(reflect.ValueOf(x), func(v reflect.Value) {
		v = v.Slice(0, v.Cap())
		for k := range v.Len() {
			fill(v.Index(k))
		}
	})
}

// kept is what is handed in while its memory is watched: such as may be, and such as may not, with events that change something, and such as do not.
func kept() (l []given) {
	w := midst()
	num := w.Net.Parcels[4].Num
	events := []api.Event{submit(ofBoth), submit(unwise), cancel(1), cancel(9), tick(0), tick(1), tick(3), tick(4), lose(num), drop(0, 1), twin(num), twin(3), spoilt(num, 3, 4), spoilt(num, 3, 0), {}}
	for k, p := range w.Net.Parcels {
		if k%6 == 0 {
			events = append(events, come(p.Num))
		}
	}
	others := []api.World{done(), stuffed(), begun(), {}}
	for n, e := range events {
		g := given{World: w, Other: copyOf(w), Event: e, Events: []api.Event{submit(ofU), tick(0), come(4), come(1), tick(1), e}, Catalog: tables(), Layout: parts(), N: n % 4}
		switch n % 5 {
		case 1:
			g.Other = others[n%len(others)]
			g.Layout = wrongLayouts()[n%len(wrongLayouts())]
		case 2:
			g.World = others[n%len(others)]
		case 3:
			g.N = n*101 - 600
			g.Catalog = wrongCatalogs()[n%len(wrongCatalogs())]
		}
		l = append(l, g)
	}
	for k, other := range others {
		l = append(l, given{World: other, Other: w, Event: events[4+k], Catalog: tables(), Layout: astray(), N: k})
	}
	return l
}

// R3: what is handed in stays as it was, the room behind a list's end too, also when what is answered is spoiled; what is answered is not spoiled with what was handed in.
func TestMemory(t *testing.T) {
	t.Parallel()
	answered := map[string]int{}
	for _, was := range kept() {
		for k, call := range calls() {
			in := roomy(was)
			before := whole(in)
			got := call(in)
			want := copyOf(got)
			spoil(got)
			if !reflect.DeepEqual(whole(in), before) {
				t.Errorf("%v of %v: it is %v", names()[k], was, in)
			}
			got = call(in)
			spoil(in)
			if !same(got, want) {
				t.Errorf("%v of %v: %v, not %v", names()[k], was, got, want)
			}
			if want.Err == api.OK && !same(want.World, was.World) {
				answered[names()[k]]++
			}
		}
	}
	for _, name := range append(becoming(), "Layout") {
		if answered[name] < 8 {
			t.Error(name, answered)
		}
	}
}

// R3: no two lists of one answer share memory, those of the coordinator, of the workers and of the parcels neither; and what stands behind their ends is nobody's.
func TestMemoryWithin(t *testing.T) {
	for _, was := range kept() {
		for k, call := range calls() {
			got, seen := call(was), map[uintptr]bool{}
			eachList(reflect.ValueOf(&got).Elem(), func(v reflect.Value) {
				room := v.Slice(0, v.Cap())
				for at := range room.Len() {
					place := room.Index(at).Addr().Pointer()
					if seen[place] && room.Index(at).Type().Size() > 0 {
						t.Errorf("%v of %v: lists of %v share memory", names()[k], was, got)
					}
					seen[place] = true
				}
			})
			want := call(was)
			eachList(reflect.ValueOf(got), func(v reflect.Value) {
				room := v.Slice(v.Len(), v.Cap())
				for at := range room.Len() {
					fill(room.Index(at))
				}
			})
			if !same(got, want) {
				t.Errorf("%v of %v: %v, not %v", names()[k], was, got, want)
			}
		}
	}
}

// R3, R5: nothing is kept: what is done to an answer, or to what was handed in, or asked in between, reaches no later answer.
func TestNothingIsKept(t *testing.T) {
	t.Parallel()
	all := kept()
	for k, was := range all {
		for m, call := range calls() {
			if (k+m)%2 == 1 {
				continue
			}
			want := copyOf(call(was))
			in := roomy(was)
			got := call(in)
			spoil(got)
			spoil(in)
			for _, other := range calls() {
				other(all[(k*7+m)%len(all)])
			}
			if again := call(was); !same(again, want) {
				t.Errorf("%v of %v: %v, not %v", names()[m], was, again, want)
			}
		}
	}
}

// R3: nil and empty lists are one, in whatever is handed in.
func TestNilAndEmpty(t *testing.T) {
	for _, g := range kept() {
		empty := copyOf(g)
		eachList(reflect.ValueOf(&empty).Elem(), func(v reflect.Value) {
			if v.Len() == 0 {
				v.Set(reflect.MakeSlice(v.Type(), 0, 2))
			}
		})
		for k, call := range calls() {
			if got, want := call(empty), call(copyOf(g)); !same(got, want) {
				t.Errorf("%v of %v: %v, not %v", names()[k], g, got, want)
			}
		}
	}
}

// R2: beside an error there is nothing, but of Do the world as it was; and each call answers what the words say.
func TestNothingBesideAnError(t *testing.T) {
	met := map[string]tally{}
	for _, g := range kept() {
		for _, name := range names() {
			got := asRule(t, name, g)
			if got.Err != api.OK && !same(got, besideError(name, g, got.Err)) {
				t.Errorf("%v of %v: %v", name, g, got)
			}
			if met[name] == nil {
				met[name] = tally{}
			}
			met[name][got.Err]++
		}
	}
	met["New"].metAll(t, api.OK, api.ErrCatalog, api.ErrLayout, api.ErrScheme)
	met["Do"].metAll(t, api.OK, api.ErrWorld, api.ErrEvent, api.ErrNone, api.ErrArg)
	met["Rounds"].metAll(t, api.OK, api.ErrWorld, api.ErrArg)
	met["Check"].metAll(t, api.OK, api.ErrWorld)
	met["Layout"].metAll(t, api.OK, api.ErrWorld)
	met["Same"].metAll(t, api.OK)
}

// R3: of several answers of one world each has its own memory, also those of errors.
func TestAnswersApart(t *testing.T) {
	in := roomy(given{World: midst()}).World
	before := whole(in)
	events := []api.Event{submit(ofU), cancel(1), tick(0), tick(2), come(in.Net.Parcels[0].Num), lose(in.Net.Parcels[0].Num), drop(0, 1), twin(in.Net.Parcels[1].Num), spoilt(in.Net.Parcels[1].Num, 0, 1), {}, cancel(0), tick(9)}
	var all, want []api.World
	for _, e := range events {
		w, _ := world.Do(in, e)
		all, want = append(all, w), append(want, copyOf(w))
	}
	w, e := world.Rounds(in, 0)
	must(t, e)
	other, e := world.Rounds(w, 1)
	must(t, e)
	all, want = append(all, w, other), append(want, copyOf(w), copyOf(other))
	for k := range all {
		spoil(all[k])
		for n := k + 1; n < len(all); n++ {
			if !same(all[n], want[n]) {
				t.Error(k, n, all[n])
			}
		}
	}
	if !reflect.DeepEqual(whole(in), before) {
		t.Error(in)
	}
}

// R3: tables, tasks and bytes that stand several times in what is handed in, in the same memory, are several in what is answered.
func TestSharedMemory(t *testing.T) {
	c, r := tables(), list("5")[0]
	l := api.Layout{Parts: []api.Base{{Tables: [][]api.Row{nil, {r, r}}}, {Tables: [][]api.Row{nil, {r}}}}}
	l.Parts = append(l.Parts, l.Parts[0])
	w, e := world.New(c, l)
	must(t, e)
	want := copyOf(w)
	spoil(w.Workers[:1:1])
	spoil(w.Coord)
	if !same(w.Workers[1:], want.Workers[1:]) || !same(c, tables()) || !same(r, list("5")[0]) {
		t.Error(w)
	}
	w = worldOf(c, l)
	w.Workers[2].Tables = w.Workers[0].Tables
	p := parcel(1, 1, 2, message(api.MsgDrop, 1, 0, 2))
	other := p
	other.Num = 2
	w.Net = netOf(p, other)
	for k := range w.Workers {
		w.Workers[k].Catalog = c
	}
	before := copyOf(w)
	after, reply := world.Do(w, tick(0))
	must(t, reply.Err)
	spoil(after.Workers[:1:1])
	spoil(after.Net.Parcels[:1:1])
	if !same(w, before) || !same(after.Workers[1:], before.Workers[1:]) || !same(after.Net.Parcels[1:], before.Net.Parcels[1:]) || !same(after.Coord, before.Coord) {
		t.Error(after)
	}
}

// R3: the layout is a copy, each time anew.
func TestLayoutIsCopied(t *testing.T) {
	w := midst()
	l, e := world.Layout(w)
	must(t, e)
	other, e := world.Layout(w)
	must(t, e)
	spoil(l)
	if !same(other, parts()) || !same(w, midst()) {
		t.Error(other)
	}
}
