package query_test

import (
	"reflect"
	"slices"
	"testing"

	"bowsprit/api"
	"bowsprit/query"
)

// eachList goes to all lists that a thing has, those within lists too.
func eachList(v reflect.Value, visit func(reflect.Value)) {
	switch v.Kind() {
	case reflect.Struct:
		for k := range v.NumField() {
			eachList(v.Field(k), visit)
		}
	case reflect.Slice:
		for k := range v.Len() {
			eachList(v.Index(k), visit)
		}
		visit(v)
	}
}

// fill changes a thing, whatever is in it; of a list it makes another one.
func fill(v reflect.Value) {
	switch v.Kind() {
	case reflect.Slice:
		other := reflect.MakeSlice(v.Type(), v.Len()+1, v.Len()+1)
		fill(other.Index(v.Len()))
		v.Set(other)
	case reflect.Struct:
		for k := range v.NumField() {
			fill(v.Field(k))
		}
	case reflect.Int, reflect.Int64:
		v.SetInt(v.Int() ^ 0x55)
	case reflect.Uint32, reflect.Uint64:
		v.SetUint(v.Uint() ^ 0x55)
	case reflect.String:
		v.SetString(v.String() + "spoiled")
	case reflect.Bool:
		v.SetBool(!v.Bool())
	}
}

// roomy is a thing with memory of its own: each list has room behind its end, and in that something.
func roomy[T any](x T) T {
	x = copyOf(x)
	eachList(reflect.ValueOf(&x).Elem(), func(v reflect.Value) {
		room := reflect.MakeSlice(v.Type(), v.Len()+3, v.Len()+3)
		reflect.Copy(room, v)
		for k := v.Len(); k < room.Len(); k++ {
			fill(room.Index(k))
		}
		v.Set(room.Slice(0, v.Len()))
	})
	return x
}

// whole is a copy of a thing whose lists have what stands in the room behind their ends, too.
func whole[T any](x T) T {
	var deep func(v reflect.Value)
	deep = func(v reflect.Value) {
		switch v.Kind() {
		case reflect.Struct:
			for k := range v.NumField() {
				deep(v.Field(k))
			}
		case reflect.Slice:
			l := reflect.MakeSlice(v.Type(), v.Cap(), v.Cap())
			reflect.Copy(l, v.Slice(0, v.Cap()))
			for k := range v.Len() {
				deep(l.Index(k))
			}
			v.Set(l)
		}
	}
	deep(reflect.ValueOf(&x).Elem())
	return x
}

// spoil changes all that a thing's lists have, and the room behind them.
func spoil[T any](x T) {
	eachList(reflect.ValueOf(x), func(v reflect.Value) {
		v = v.Slice(0, v.Cap())
		for k := range v.Len() {
			fill(v.Index(k))
		}
	})
}

// kept is what is handed in while its memory is watched: lives that may be, and such as may not, with texts, rows and errors that are right and wrong.
func kept() (l []given) {
	lives := append(append(running(), ended()...), noLives()[:12]...)
	lives = append(lives, stuffed(), noLives()[20])
	texts := []string{"SELECT a, COUNT(*) AS n FROM t JOIN u ON a = c WHERE b = 1 GROUP BY a ORDER BY n", "SELECT d, f FROM v WHERE f > 1 UNION ALL SELECT DISTINCT d, 1 FROM v LIMIT 3", "SELECT zz FROM t", "SELECT"}
	for k, x := range lives {
		width := len(x.Program.Names)
		rows := [][]api.Row{rowsOf(3, width), slices.Repeat([]api.Row{slices.Repeat(api.Row{text("a")}, width)}, 3), nil, rowsOf(2, width+1), {{wrongValues()[k%5]}}}
		for n := range 2 * len(rows) {
			g := given{Life: x, Other: copyOf(x), Catalog: tables(), Epoch: n, Text: texts[(n+k)%len(texts)], Rows: rows[n%len(rows)], Err: []api.Errno{api.ErrFault, api.ErrOver, api.ErrArg}[n%3]}
			if n%2 == 1 {
				g.Other = lives[(k+1)%len(lives)]
			}
			if n == 7 {
				g.Catalog = badCatalogs()[k%len(badCatalogs())]
			}
			l = append(l, g)
		}
	}
	return l
}

// R3: what is handed in stays as it was, the room behind a list's end too, also when what is answered is spoiled; what is answered is not spoiled with what was handed in.
func TestMemory(t *testing.T) {
	answered := map[string]int{}
	for _, was := range kept() {
		for k, call := range calls() {
			in := roomy(was)
			before := whole(in)
			got := call(in)
			want := copyOf(got)
			spoil(got)
			if !reflect.DeepEqual(whole(in), before) {
				t.Errorf("%v of %v: it is %v", names()[k], was, in)
			}
			got = call(in)
			spoil(in)
			if !same(got, want) {
				t.Errorf("%v of %v: %v, not %v", names()[k], was, got, want)
			}
			if !same(want, answer{}) && want.Err == api.OK {
				answered[names()[k]]++
			}
		}
	}
	for _, name := range append(ending(), "Compile", "Begin", "Text", "Same") {
		if answered[name] < 20 {
			t.Error(answered)
		}
	}
}

// R3: no two lists of one answer share memory, those of a plan and of rows neither; and what stands behind their ends is nobody's.
func TestMemoryWithin(t *testing.T) {
	for _, was := range kept() {
		for k, call := range calls() {
			got, seen := call(was), map[uintptr]bool{}
			eachList(reflect.ValueOf(&got).Elem(), func(v reflect.Value) {
				room := v.Slice(0, v.Cap())
				for at := range room.Len() {
					place := room.Index(at).Addr().Pointer()
					if seen[place] && room.Index(at).Type().Size() > 0 {
						t.Errorf("%v of %v: lists of %v share memory", names()[k], was, got)
					}
					seen[place] = true
				}
			})
			want := call(was)
			eachList(reflect.ValueOf(got), func(v reflect.Value) {
				room := v.Slice(v.Len(), v.Cap())
				for at := range room.Len() {
					fill(room.Index(at))
				}
			})
			if !same(got, want) {
				t.Errorf("%v of %v: %v, not %v", names()[k], was, got, want)
			}
		}
	}
}

// R3, R5: nothing is kept: what is done to an answer, or to what was handed in, or asked in between, reaches no later answer.
func TestNothingIsKept(t *testing.T) {
	all := kept()
	for k, was := range all {
		for m, call := range calls() {
			want := copyOf(call(was))
			in := roomy(was)
			got := call(in)
			spoil(got)
			spoil(in)
			for _, other := range calls() {
				other(all[(k*7+m)%len(all)])
			}
			if again := call(was); !same(again, want) {
				t.Errorf("%v of %v: %v, not %v", names()[m], was, again, want)
			}
		}
	}
}

// R3: nil and empty lists are one, in whatever is handed in.
func TestNilAndEmpty(t *testing.T) {
	for _, g := range kept() {
		empty := copyOf(g)
		eachList(reflect.ValueOf(&empty).Elem(), func(v reflect.Value) {
			if v.Len() == 0 {
				v.Set(reflect.MakeSlice(v.Type(), 0, 2))
			}
		})
		for k, call := range calls() {
			if got, want := call(empty), call(copyOf(g)); !same(got, want) {
				t.Errorf("%v of %v: %v, not %v", names()[k], g, got, want)
			}
		}
	}
}

// R2: beside an error there is nothing but the place of a text; and each call answers what the words say.
func TestNothingBesideAnError(t *testing.T) {
	met := map[string]tally{}
	for _, g := range kept() {
		for _, name := range names() {
			got := asRule(t, name, g)
			if got.Err != api.OK && !same(got, answer{Err: got.Err, At: got.At}) || got.At != 0 && name != "Compile" {
				t.Errorf("%v of %v: %v", name, g, got)
			}
			if met[name] == nil {
				met[name] = tally{}
			}
			met[name][got.Err]++
		}
	}
	met["Compile"].metAll(t, api.OK, api.ErrCatalog, api.ErrName, api.ErrParse)
	met["Begin"].metAll(t, api.OK, api.ErrCatalog, api.ErrArg)
	met["Check"].metAll(t, api.OK, api.ErrLife)
	met["Rows"].metAll(t, api.OK, api.ErrLife, api.ErrReported, api.ErrArg)
	met["Fail"].metAll(t, api.OK, api.ErrLife, api.ErrReported, api.ErrArg)
	met["Cancel"].metAll(t, api.OK, api.ErrLife, api.ErrReported)
	met["Text"].metAll(t, api.OK, api.ErrLife, api.ErrArg)
	met["Same"].metAll(t, api.OK)
}

// R3: one row that stands several times in what is handed in, in the same memory, is several in what is answered; names are not those of the life that ran.
func TestSharedMemory(t *testing.T) {
	r := list("5 'a'")[0]
	l := runs(3, small(), "a", "b")
	in := []api.Row{r, r, r}
	got, e := query.Rows(l, in)
	again, f := query.Rows(l, in)
	if e != api.OK || f != api.OK || !same(got, again) {
		t.Fatal(got, e, again, f)
	}
	want := copyOf(again)
	got.Report.Rows[0][0] = null
	got.Report.Names[0] = "z"
	if !same(got.Report.Rows[1:], want.Report.Rows[1:]) || !same(again, want) || !same(r, list("5 'a'")[0]) || l.Program.Names[0] != "a" {
		t.Error(got, again, r, l)
	}
	r[1] = null
	l.Program.Names[1] = "y"
	in[2] = nil
	if !same(again, want) {
		t.Error(again)
	}
}

// R3: a program and a life that begins share nothing with the catalog, nor with what another call made of the same text.
func TestProgramsApart(t *testing.T) {
	c := tables()
	text := "SELECT b, SUM(a) FROM t JOIN u ON b = c GROUP BY b HAVING COUNT(*) > 1 ORDER BY b"
	first, _, e := query.Compile(c, text)
	second, f := query.Begin(c, 4, text)
	if e != api.OK || f != api.OK || !same(first, second.Program) {
		t.Fatal(first, e, second, f)
	}
	want := copyOf(first)
	spoil(first)
	spoil(c)
	if !same(second.Program, want) {
		t.Error(second)
	}
}
