package coord_test

import (
	"reflect"
	"slices"
	"testing"

	"bowsprit/api"
	"bowsprit/coord"
)

// eachList goes to all lists that a thing has, those within lists too.
func eachList(v reflect.Value, visit func(reflect.Value)) {
	switch v.Kind() {
	case reflect.Struct:
		for k := range v.NumField() {
			eachList(v.Field(k), visit)
		}
	case reflect.Slice:
		for k := range v.Len() {
			eachList(v.Index(k), visit)
		}
		visit(v)
	}
}

// fill changes a thing, whatever is in it; of a list it makes another one.
func fill(v reflect.Value) {
	switch v.Kind() {
	case reflect.Slice:
		other := reflect.MakeSlice(v.Type(), v.Len()+1, v.Len()+1)
		fill(other.Index(v.Len()))
		v.Set(other)
	case reflect.Struct:
		for k := range v.NumField() {
			fill(v.Field(k))
		}
	case reflect.Int, reflect.Int64:
		v.SetInt(v.Int() ^ 0x55)
	case reflect.Uint32, reflect.Uint64:
		v.SetUint(v.Uint() ^ 0x55)
	case reflect.String:
		v.SetString(v.String() + "spoiled")
	case reflect.Bool:
		v.SetBool(!v.Bool())
	}
}

// roomy is a thing with memory of its own: each list has room behind its end, and in that something.
func roomy[T any](x T) T {
	x = copyOf(x)
	eachList(reflect.ValueOf(&x).Elem(), func(v reflect.Value) {
		room := reflect.MakeSlice(v.Type(), v.Len()+3, v.Len()+3)
		reflect.Copy(room, v)
		for k := v.Len(); k < room.Len(); k++ {
			fill(room.Index(k))
		}
		v.Set(room.Slice(0, v.Len()))
	})
	return x
}

// whole is a copy of a thing whose lists have what stands in the room behind their ends, too.
func whole[T any](x T) T {
	var deep func(v reflect.Value)
	deep = func(v reflect.Value) {
		switch v.Kind() {
		case reflect.Struct:
			for k := range v.NumField() {
				deep(v.Field(k))
			}
		case reflect.Slice:
			l := reflect.MakeSlice(v.Type(), v.Cap(), v.Cap())
			reflect.Copy(l, v.Slice(0, v.Cap()))
			for k := range v.Len() {
				deep(l.Index(k))
			}
			v.Set(l)
		}
	}
	deep(reflect.ValueOf(&x).Elem())
	return x
}

// spoil changes all that a thing's lists have, and the room behind them.
func spoil[T any](x T) {
	eachList(reflect.ValueOf(x), func(v reflect.Value) {
		v = v.Slice(0, v.Cap())
		for k := range v.Len() {
			fill(v.Index(k))
		}
	})
}

// busy is a coordinator whose tasks go on at the next tick: to rows, to an end, and to what is sent on.
func busy() api.Coord {
	casts := taskOf(4, 1, api.TaskGathers, onOne(api.WayCast, input(0, ki), filter(on(api.NGt, col(0), num(1))), group([]int{0}, agg(api.AggAll), agg(api.AggSum, col(0))), sortBy(4, down(1))), ins(4, 0, "5", "3 / 9", ""))
	for node := 1; node <= sites; node++ {
		casts.Outs = append(casts.Outs, api.Out{To: node, Sender: api.Sender{Session: 4, Base: 1, Limit: 8}})
	}
	return laid([]api.Task{gathers(1), ready(2), falls(3), casts},
		entry(runs(1, small(), "c"), []int{1}, nil), entry(runs(2, small(), "c"), nil, nil), entry(runs(3, faulty(), "c"), []int{2, 3}, nil), entry(runs(4, twice(), "a", "b"), nil, nil), entry(over(5, came(list("1 / 2"), "c")), nil, []int{2}))
}

// kept is what is handed in while its memory is watched: such as may be, and such as may not, with messages and texts that change something, and such as do not.
func kept() (l []given) {
	coords := []api.Coord{full(), busy(), plain(), filled(11), filled(12), stuffed(), {}, of(full(), func(c *api.Coord) { c.Worker.Has = 0 })}
	texts := []string{"SELECT a, COUNT(*) AS n FROM t JOIN u ON a = c WHERE b = 'x' GROUP BY a ORDER BY n", "SELECT c FROM u WHERE c > 1 UNION ALL SELECT DISTINCT a FROM t LIMIT 3", "SELECT zz FROM t", "SELECT"}
	for k, c := range coords {
		msgs := []api.Msg{
			have(2, 3), have(10, 1), gone(3, 3), gone(8, 1), fails(2, 1, api.ErrFault), fails(6, 2, api.ErrOver), data(2, 0, 2, 2, rowsOf("7 / 8")), data(2, 0, 3, 1, rowsOf("7")), data(1, 0, 2, 2, end(1)), fails(1, 2, api.ErrOver), have(1, 2),
			ack(4, 1, 1, 1, 9), gone(2, 1), {}, plans(2, small(), 0)[0], data(7, 0, 2, 2, rowsOf("7 / 8")),
		}
		for n, m := range msgs {
			g := given{Coord: c, Other: copyOf(c), Msg: m, Catalog: tables(), Sites: sites, Epoch: n, Text: texts[(n+k)%len(texts)]}
			if n%2 == 1 {
				g.Other = coords[(k+1)%len(coords)]
			}
			if n%5 == 2 {
				g.Catalog = wrongCatalogs()[(k+n)%len(wrongCatalogs())]
			}
			if n%5 == 3 {
				g.Sites = n * k
			}
			l = append(l, g)
		}
	}
	return l
}

// R3: what is handed in stays as it was, the room behind a list's end too, also when what is answered is spoiled; what is answered is not spoiled with what was handed in.
func TestMemory(t *testing.T) {
	answered := map[string]int{}
	for _, was := range kept() {
		for k, call := range calls() {
			in := roomy(was)
			before := whole(in)
			got := call(in)
			want := copyOf(got)
			spoil(got)
			if !reflect.DeepEqual(whole(in), before) {
				t.Errorf("%v of %v: it is %v", names()[k], was, in)
			}
			got = call(in)
			spoil(in)
			if !same(got, want) {
				t.Errorf("%v of %v: %v, not %v", names()[k], was, got, want)
			}
			if !same(want, answer{Coord: was.Coord}) && want.Err == api.OK && !same(want, answer{}) {
				answered[names()[k]]++
			}
		}
	}
	for _, name := range append(becoming(), "New", "Report", "Same") {
		if answered[name] < 6 {
			t.Error(name, answered)
		}
	}
}

// R3: no two lists of one answer share memory, those of what is said, of the worker and of the lives neither; and what stands behind their ends is nobody's.
func TestMemoryWithin(t *testing.T) {
	for _, was := range kept() {
		for k, call := range calls() {
			got, seen := call(was), map[uintptr]bool{}
			eachList(reflect.ValueOf(&got).Elem(), func(v reflect.Value) {
				room := v.Slice(0, v.Cap())
				for at := range room.Len() {
					place := room.Index(at).Addr().Pointer()
					if seen[place] && room.Index(at).Type().Size() > 0 {
						t.Errorf("%v of %v: lists of %v share memory", names()[k], was, got)
					}
					seen[place] = true
				}
			})
			want := call(was)
			eachList(reflect.ValueOf(got), func(v reflect.Value) {
				room := v.Slice(v.Len(), v.Cap())
				for at := range room.Len() {
					fill(room.Index(at))
				}
			})
			if !same(got, want) {
				t.Errorf("%v of %v: %v, not %v", names()[k], was, got, want)
			}
		}
	}
}

// R3, R5: nothing is kept: what is done to an answer, or to what was handed in, or asked in between, reaches no later answer.
func TestNothingIsKept(t *testing.T) {
	all := kept()
	for k, was := range all {
		for m, call := range calls() {
			want := copyOf(call(was))
			in := roomy(was)
			got := call(in)
			spoil(got)
			spoil(in)
			for _, other := range calls() {
				other(all[(k*7+m)%len(all)])
			}
			if again := call(was); !same(again, want) {
				t.Errorf("%v of %v: %v, not %v", names()[m], was, again, want)
			}
		}
	}
}

// R3: nil and empty lists are one, in whatever is handed in.
func TestNilAndEmpty(t *testing.T) {
	for _, g := range kept() {
		empty := copyOf(g)
		eachList(reflect.ValueOf(&empty).Elem(), func(v reflect.Value) {
			if v.Len() == 0 {
				v.Set(reflect.MakeSlice(v.Type(), 0, 2))
			}
		})
		for k, call := range calls() {
			if got, want := call(empty), call(copyOf(g)); !same(got, want) {
				t.Errorf("%v of %v: %v, not %v", names()[k], g, got, want)
			}
		}
	}
}

// R2: beside an error there is nothing; and each call answers what the words say.
func TestNothingBesideAnError(t *testing.T) {
	met := map[string]tally{}
	for _, g := range kept() {
		for _, name := range names() {
			got := asRule(t, name, g)
			if got.Err != api.OK && !same(got, answer{Err: got.Err}) || name == "Report" && !got.Is && !same(got, answer{}) {
				t.Errorf("%v of %v: %v", name, g, got)
			}
			if met[name] == nil {
				met[name] = tally{}
			}
			met[name][got.Err]++
		}
	}
	met["New"].metAll(t, api.OK, api.ErrCatalog, api.ErrArg)
	met["Submit"].metAll(t, api.OK, api.ErrCoord, api.ErrFull)
	met["Cancel"].metAll(t, api.OK, api.ErrCoord, api.ErrNone, api.ErrReported)
	for _, name := range []string{"Check", "Hear", "Tick"} {
		met[name].metAll(t, api.OK, api.ErrCoord)
	}
	for _, name := range []string{"Report", "Quiet", "Same"} {
		met[name].metAll(t, api.OK)
	}
}

// R3: of several answers of one coordinator each has its own memory, also if they share all that they had.
func TestAnswersApart(t *testing.T) {
	in := roomy(given{Coord: busy()}).Coord
	before := whole(in)
	first, said, e := coord.Tick(in)
	second, again, f := coord.Tick(first)
	third, _, g := coord.Submit(first, "SELECT c FROM u")
	fourth, h := coord.Cancel(first, 1)
	fifth, i := coord.Hear(first, data(1, 0, 2, 2, rowsOf("4")))
	if slices.ContainsFunc([]api.Errno{e, f, g, h, i}, func(e api.Errno) bool { return e != api.OK }) {
		t.Fatal(e, f, g, h, i)
	}
	wantSaid := copyOf(again)
	spoil(said)
	all := []*api.Coord{&first, &second, &third, &fourth, &fifth}
	var want []api.Coord
	for _, c := range all {
		want = append(want, copyOf(*c))
	}
	for k, c := range all {
		c.Entries = append(c.Entries, api.Entry{})
		spoil(*c)
		for n, other := range all {
			if n > k && !same(*other, want[n]) {
				t.Error(k, n, *other, want[n])
			}
		}
	}
	if !reflect.DeepEqual(whole(in), before) || !same(again, wantSaid) {
		t.Error(in, again)
	}
}

// R3: the plans that are told to several nodes are apart from one another, and from the life's; a report is a copy, each time anew.
func TestToldPlansAreCopied(t *testing.T) {
	c := laid(nil, entry(runs(1, twice(), "c"), nil, nil))
	after, said, e := coord.Tick(c)
	if e != api.OK || len(said) != 3 {
		t.Fatal(e, said)
	}
	spoil(said[:1:1])
	if !same(said[1:], plans(1, twice(), 2, 3)) || !same(after, c) {
		t.Error(said, after)
	}
	r, is := coord.Report(full(), 3)
	other, _ := coord.Report(full(), 3)
	spoil(r)
	if !is || !same(other, came(list("1 / 2"), "c")) {
		t.Error(r, other)
	}
	c = full()
	r, _ = coord.Report(c, 3)
	spoil(r)
	if !same(c, full()) {
		t.Error(c)
	}
}

// R3: plans, rows and lives that stand several times in what is handed in, in the same memory, are several in what is answered.
func TestSharedMemory(t *testing.T) {
	p, r := twice(), list("5")[0]
	rows := []api.Row{r, r, r}
	names := []string{"c"}
	c := laid(nil, entry(runs(1, small(), "c"), nil, nil), entry(runs(2, small(), "c"), nil, nil), entry(over(3, came(nil)), nil, nil), entry(over(4, came(nil)), nil, nil))
	for k := range 2 {
		c.Entries[k].Life.Program = api.Program{Plan: p, Names: names}
		c.Entries[2+k].Life.Report = api.Report{Names: names, Rows: rows}
	}
	got, said, e := coord.Tick(c)
	want, wantSaid := copyOf(got), copyOf(said)
	if e != api.OK || len(said) != 12 {
		t.Fatal(e, said)
	}
	spoil(got.Entries[:1:1])
	spoil(got.Entries[2:3:3])
	spoil(said[:1:1])
	if !same(got.Entries[1], want.Entries[1]) || !same(got.Entries[3], want.Entries[3]) || !same(said[1:], wantSaid[1:]) || !same(r, list("5")[0]) || !same(p, twice()) || names[0] != "c" {
		t.Error(got, said)
	}
}
