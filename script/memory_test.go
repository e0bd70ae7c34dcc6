package script_test

import (
	"reflect"
	"strings"
	"testing"

	"bowsprit/api"
	"bowsprit/script"
)

// eachList goes to all lists that a thing has, those within lists too.
func eachList(v reflect.Value, visit func(reflect.Value)) {
	switch v.Kind() {
	case reflect.Struct:
		for k := range v.NumField() {
			eachList(v.Field(k), visit)
		}
	case reflect.Slice:
		for k := range v.Len() {
			eachList(v.Index(k), visit)
		}
		visit(v)
	}
}

// fill changes a thing, whatever is in it; of a list it makes another one.
func fill(v reflect.Value) {
	switch v.Kind() {
	case reflect.Slice:
		other := reflect.MakeSlice(v.Type(), v.Len()+1, v.Len()+1)
		fill(other.Index(v.Len()))
		v.Set(other)
	case reflect.Struct:
		for k := range v.NumField() {
			fill(v.Field(k))
		}
	case reflect.Int, reflect.Int64:
		v.SetInt(v.Int() ^ 0x55)
	case reflect.Uint8, reflect.Uint32, reflect.Uint64:
		v.SetUint(v.Uint() ^ 0x55)
	case reflect.String:
		v.SetString(v.String() + "spoiled")
	case reflect.Bool:
		v.SetBool(!v.Bool())
	}
}

// roomy is a thing with memory of its own: each list has room behind its end, and in that something.
func roomy[T any](x T) T {
	x = copyOf(x)
	eachList(reflect.ValueOf(&x).Elem(), func(v reflect.Value) {
		room := reflect.MakeSlice(v.Type(), v.Len()+3, v.Len()+3)
		reflect.Copy(room, v)
		for k := v.Len(); k < room.Len(); k++ {
			fill(room.Index(k))
		}
		v.Set(room.Slice(0, v.Len()))
	})
	return x
}

// whole is a copy of a thing whose lists have what stands in the room behind their ends, too.
func whole[T any](x T) T {
	var deep func(v reflect.Value)
	deep = func(v reflect.Value) {
		switch v.Kind() {
		case reflect.Struct:
			for k := range v.NumField() {
				deep(v.Field(k))
			}
		case reflect.Slice:
			l := reflect.MakeSlice(v.Type(), v.Cap(), v.Cap())
			reflect.Copy(l, v.Slice(0, v.Cap()))
			for k := range v.Len() {
				deep(l.Index(k))
			}
			v.Set(l)
		}
	}
	deep(reflect.ValueOf(&x).Elem())
	return x
}

// spoil changes all that a thing's lists have, and the room behind them.
func spoil[T any](x T) {
	eachList(reflect.ValueOf(x), func(v reflect.Value) {
		v = v.Slice(0, v.Cap())
		for k := range v.Len() {
			fill(v.Index(k))
		}
	})
}

// kept is what is handed in while its memory is watched: such as may be, and such as may not, by texts that are right, and such as are not.
func kept() (l []given) {
	others := []api.Script{plain(), bare(), bare(eachKind()...), sized(api.MaxScript), sized(api.MaxScript + 1), playing(submit(ofU), submit(ofBoth), rounds(2), submit(faults), tick(1), rounds(20), cancel(3), submit(unwise)), textAt("it's a text")[3]}
	all := append(noScripts(), others...)
	for k, s := range all {
		text := writtenByRule(others[k%len(others)])
		if k%4 == 3 {
			text = text[:len(text)-k%5]
		}
		l = append(l, given{Script: s, Other: all[(k*k+k)%len(all)], Text: text})
		if k%4 == 0 {
			l = append(l, given{Script: s, Other: copyOf(s), Text: strings.Replace(text, "row", "tick", 1)})
		}
	}
	return l
}

// R3: what is handed in stays as it was, the room behind a list's end too, also when what is answered is spoiled; what is answered is not spoiled with what was handed in.
func TestMemory(t *testing.T) {
	answered := map[string]int{}
	for _, was := range kept() {
		for k, call := range calls() {
			in := roomy(was)
			before := whole(in)
			got := call(in)
			want := copyOf(got)
			spoil(got)
			if !reflect.DeepEqual(whole(in), before) {
				t.Errorf("%v of %v: it is %v", names()[k], short(was), short(in))
			}
			got = call(in)
			spoil(in)
			if !same(got, want) {
				t.Errorf("%v of %v: %v, not %v", names()[k], short(was), short(got), short(want))
			}
			if !same(want, answer{Err: want.Err, At: want.At}) {
				answered[names()[k]]++
			}
		}
	}
	for _, name := range []string{"Print", "Parse", "Play", "Run", "Same"} {
		if answered[name] < 5 {
			t.Error(name, answered)
		}
	}
}

// R3: no two lists of one answer share memory, rows and parts neither; and what stands behind their ends is nobody's.
func TestMemoryWithin(t *testing.T) {
	for _, was := range kept() {
		for k, call := range calls() {
			got, seen := call(was), map[uintptr]bool{}
			eachList(reflect.ValueOf(&got).Elem(), func(v reflect.Value) {
				room := v.Slice(0, v.Cap())
				for at := range room.Len() {
					place := room.Index(at).Addr().Pointer()
					if seen[place] && room.Index(at).Type().Size() > 0 {
						t.Errorf("%v of %v: lists of %v share memory", names()[k], short(was), short(got))
					}
					seen[place] = true
				}
			})
			want := call(was)
			eachList(reflect.ValueOf(got), func(v reflect.Value) {
				room := v.Slice(v.Len(), v.Cap())
				for at := range room.Len() {
					fill(room.Index(at))
				}
			})
			if !same(got, want) {
				t.Errorf("%v of %v: %v, not %v", names()[k], short(was), short(got), short(want))
			}
		}
	}
}

// R3, R5: nothing is kept: what is done to an answer, or to what was handed in, or asked in between, reaches no later answer.
func TestNothingIsKept(t *testing.T) {
	all := kept()
	for k, was := range all {
		for m, call := range calls() {
			want := copyOf(call(was))
			in := roomy(was)
			got := call(in)
			spoil(got)
			spoil(in)
			for _, other := range calls() {
				other(all[(k*7+m)%len(all)])
			}
			if again := call(was); !same(again, want) {
				t.Errorf("%v of %v: %v, not %v", names()[m], short(was), short(again), short(want))
			}
		}
	}
}

// R3: nil and empty lists are one, in whatever is handed in.
func TestNilAndEmpty(t *testing.T) {
	for _, g := range kept() {
		empty := copyOf(g)
		eachList(reflect.ValueOf(&empty).Elem(), func(v reflect.Value) {
			if v.Len() == 0 {
				v.Set(reflect.MakeSlice(v.Type(), 0, 2))
			}
		})
		for k, call := range calls() {
			if got, want := call(empty), call(copyOf(g)); !same(got, want) {
				t.Errorf("%v of %v: %v, not %v", names()[k], short(g), short(got), short(want))
			}
		}
	}
}

// R2: beside an error there is nothing but the place at which a text is wrong; and each call answers what the words say.
func TestNothingBesideAnError(t *testing.T) {
	met := map[string]tally{}
	for _, g := range kept() {
		for _, name := range names() {
			got := asRule(t, name, g)
			if got.Err != api.OK && !same(got, answer{Err: got.Err, At: got.At}) {
				t.Errorf("%v of %v: %v", name, short(g), short(got))
			}
			if met[name] == nil {
				met[name] = tally{}
			}
			met[name][got.Err]++
		}
	}
	for _, name := range []string{"Print", "Parse", "Run"} {
		met[name].metAll(t, api.OK, api.ErrScript, api.ErrLong)
	}
	for _, name := range []string{"Check", "Play"} {
		met[name].metAll(t, api.OK, api.ErrScript)
	}
	met["Same"].metAll(t, api.OK)
}

// R3: of two scripts that are read of one text each has its own memory.
func TestAnswersApart(t *testing.T) {
	text := writtenByRule(plain())
	first, _, e := script.Parse(text)
	must(t, e)
	second, _, e := script.Parse(text)
	must(t, e)
	spoil(first)
	if !same(second, plain()) || same(first, second) {
		t.Error(first, second)
	}
}

// R3: rows, tables and parts that stand several times in what is handed in, in the same memory, are written each time.
func TestSharedMemory(t *testing.T) {
	r := list("5 TRUE")[0]
	part := api.Base{Tables: [][]api.Row{nil, {r, r}, nil}}
	s := api.Script{Catalog: tables(), Layout: api.Layout{Parts: []api.Base{part, part, part}}, Events: []api.Event{submit(ofU), rounds(30)}}
	want := copyOf(s)
	isText(t, s, head()+lines("row 1 u 5 TRUE", "row 1 u 5 TRUE", "row 2 u 5 TRUE", "row 2 u 5 TRUE", "row 3 u 5 TRUE", "row 3 u 5 TRUE", "submit "+ofU, "rounds 30"))
	if got := asRule(t, "Play", given{Script: s}); got.Text != lines("0 1 0", "0 0 0", "query 1", "ok 6", "5", "5", "5", "5", "5", "5") {
		t.Error(got)
	}
	if !same(s, want) {
		t.Error(s)
	}
}
