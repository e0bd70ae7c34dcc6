package denote_test

import (
	"reflect"
	"slices"
	"testing"

	"bowsprit/api"
	"bowsprit/denote"
)

// eachList goes to all lists that a thing has, those within lists too.
func eachList(v reflect.Value, visit func(reflect.Value)) {
	switch v.Kind() {
	case reflect.Struct:
		for k := range v.NumField() {
			eachList(v.Field(k), visit)
		}
	case reflect.Slice:
		for k := range v.Len() {
			eachList(v.Index(k), visit)
		}
		visit(v)
	}
}

// fill changes all that is no list in a thing.
func fill(v reflect.Value) {
	switch v.Kind() {
	case reflect.Struct:
		for k := range v.NumField() {
			fill(v.Field(k))
		}
	case reflect.Int, reflect.Int64:
		v.SetInt(v.Int() ^ 0x55)
	case reflect.Uint64:
		v.SetUint(v.Uint() ^ 0x55)
	case reflect.String:
		v.SetString(v.String() + "spoiled")
	case reflect.Bool:
		v.SetBool(!v.Bool())
	}
}

// roomy is a thing with memory of its own: each list has room behind its end, and in that something.
func roomy[T any](x T) T {
	x = copyOf(x)
	eachList(reflect.ValueOf(&x).Elem(), func(v reflect.Value) {
		room := reflect.MakeSlice(v.Type(), v.Len()+3, v.Len()+3)
		reflect.Copy(room, v)
		fill(room.Index(v.Len()))
		fill(room.Index(v.Len() + 2))
		v.Set(room.Slice(0, v.Len()))
	})
	return x
}

// whole is a copy of a thing with all of the room behind its lists.
func whole[T any](x T) T {
	var widen func(v reflect.Value)
	widen = func(v reflect.Value) {
		switch v.Kind() {
		case reflect.Struct:
			for k := range v.NumField() {
				widen(v.Field(k))
			}
		case reflect.Slice:
			l := reflect.MakeSlice(v.Type(), v.Cap(), v.Cap())
			reflect.Copy(l, v.Slice(0, v.Cap()))
			for k := range v.Len() {
				widen(l.Index(k))
			}
			v.Set(l)
		}
	}
	widen(reflect.ValueOf(&x).Elem())
	return x
}

// isAsRoomy holds that nothing has changed of what roomy made of a thing.
func isAsRoomy[T any](t *testing.T, got, was T) {
	t.Helper()
	if !reflect.DeepEqual(whole(got), whole(roomy(was))) {
		t.Errorf("%v became %v", was, got)
	}
}

// spoil changes all that a thing's lists have, and the room behind them.
func spoil(x any) {
	eachList(reflect.ValueOf(x), func(v reflect.Value) {
		v = v.Slice(0, v.Cap())
		for k := range v.Len() {
			fill(v.Index(k))
		}
	})
}

// kept are trees whose memory is watched, and databases: of each operator, some of chance, and such as are refused.
func kept() (trees []api.Logic, bases []api.Base) {
	for _, l := range each() {
		trees, bases = append(trees, l), append(bases, base(mixedRows(), mixedRows()[2:]))
	}
	for _, l := range noTrees() {
		trees, bases = append(trees, l), append(bases, baseT())
	}
	for _, b := range []api.Base{{}, base(nil), base(counted(13)), base(list("'a' / 1 2"))} {
		trees, bases = append(trees, tableT()), append(bases, b)
	}
	for seed := range int64(20) {
		m := newMaker(seed, 4)
		for range 10 {
			l, _ := m.query()
			trees, bases = append(trees, l), append(bases, m.base())
		}
	}
	return trees, bases
}

// R3: what is handed in stays as it was; what is answered may be spoiled, and is not spoiled with what was handed in.
func TestMemory(t *testing.T) {
	trees, bases := kept()
	rows := 0
	for k, l := range trees {
		if len(l.Nodes) > 1000 {
			continue
		}
		in, b := roomy(l), roomy(bases[k])
		first, e := denote.Rows(in, b)
		want := copyOf(first)
		denote.Fits(in, b)
		isAsRoomy(t, in, l)
		isAsRoomy(t, b, bases[k])
		spoil(first)
		isAsRoomy(t, in, l)
		isAsRoomy(t, b, bases[k])
		second, again := denote.Rows(in, b)
		spoil(in)
		spoil(b)
		if again != e || !same(second, want) {
			t.Errorf("%v: %v, %v, not %v, %v", l, again, second, e, want)
		}
		rows += len(want)
	}
	if rows < 300 {
		t.Error(rows)
	}
}

// R3: so of a catalog, of an aggregate, and of rows that are sorted or held against one another.
func TestMemoryOfParts(t *testing.T) {
	for _, c := range append(noCatalogs(), catalogOf(named("t", mixed...), named("u", mixed...))) {
		for _, b := range []api.Base{base(mixedRows(), mixedRows()), base(mixedRows()), base(nil, counted(20))} {
			tables, in := roomy(c), roomy(b)
			denote.CheckBase(tables, in)
			isAsRoomy(t, tables, c)
			isAsRoomy(t, in, b)
		}
	}
	orders := [][]api.Ord{nil, {down(0)}, {up(2), down(1)}, {up(3)}, {up(0), up(0), up(0), up(0)}}
	for _, rows := range [][]api.Row{mixedRows(), list("3 / 1 / 2"), {{api.Value{N: 1}}}} {
		for limit := -2; limit < 9; limit++ {
			for _, order := range orders {
				l, by := roomy(rows), roomy(order)
				got, e := denote.Sort(l, by, limit)
				want := copyOf(got)
				denote.Ahead(l[0], l[len(l)-1], by)
				isAsRoomy(t, l, rows)
				isAsRoomy(t, by, order)
				spoil(got)
				isAsRoomy(t, l, rows)
				got, again := denote.Sort(l, by, limit)
				spoil(l)
				spoil(by)
				if e != again || !same(got, want) {
					t.Errorf("%v, not %v", got, want)
				}
			}
		}
		for _, a := range slices.Concat(all(0), all(2), []api.Agg{{}, agg(api.AggMin, on(api.NDiv, num(1), col(0)))}) {
			l, in := roomy(rows), roomy(a)
			denote.Aggregate(in, l)
			isAsRoomy(t, l, rows)
			isAsRoomy(t, in, a)
		}
	}
}

// R5: asked again it answers the same, whatever was asked in between.
func TestAgain(t *testing.T) {
	trees, bases := kept()
	for k, l := range trees {
		want, e := denote.Rows(l, bases[k])
		for range 3 {
			denote.Rows(trees[(k+1)%len(trees)], bases[(k+1)%len(trees)])
			if got, again := denote.Rows(l, bases[k]); again != e || !same(got, want) {
				t.Fatalf("%v: %v, %v, not %v, %v", l, again, got, e, want)
			}
		}
	}
}
