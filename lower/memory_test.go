package lower_test

import (
	"reflect"
	"testing"

	"bowsprit/api"
	"bowsprit/lower"
)

// eachList goes to all lists that a thing has, those within lists too.
func eachList(v reflect.Value, visit func(reflect.Value)) {
	switch v.Kind() {
	case reflect.Struct:
		for k := range v.NumField() {
			eachList(v.Field(k), visit)
		}
	case reflect.Slice:
		for k := range v.Len() {
			eachList(v.Index(k), visit)
		}
		visit(v)
	}
}

// fill changes all that is no list in a thing.
func fill(v reflect.Value) {
	switch v.Kind() {
	case reflect.Struct:
		for k := range v.NumField() {
			fill(v.Field(k))
		}
	case reflect.Int, reflect.Int64:
		v.SetInt(v.Int() ^ 0x55)
	case reflect.Uint64:
		v.SetUint(v.Uint() ^ 0x55)
	case reflect.String:
		v.SetString(v.String() + "spoiled")
	case reflect.Bool:
		v.SetBool(!v.Bool())
	}
}

// roomy is a thing with memory of its own: each list has room behind its end, and in that something.
func roomy[T any](x T) T {
	x = copyOf(x)
	eachList(reflect.ValueOf(&x).Elem(), func(v reflect.Value) {
		room := reflect.MakeSlice(v.Type(), v.Len()+3, v.Len()+3)
		reflect.Copy(room, v)
		fill(room.Index(v.Len()))
		fill(room.Index(v.Len() + 2))
		v.Set(room.Slice(0, v.Len()))
	})
	return x
}

// whole is a copy of a thing with all of the room behind its lists.
func whole[T any](x T) T {
	var widen func(v reflect.Value)
	widen = func(v reflect.Value) {
		switch v.Kind() {
		case reflect.Struct:
			for k := range v.NumField() {
				widen(v.Field(k))
			}
		case reflect.Slice:
			l := reflect.MakeSlice(v.Type(), v.Cap(), v.Cap())
			reflect.Copy(l, v.Slice(0, v.Cap()))
			for k := range v.Len() {
				widen(l.Index(k))
			}
			v.Set(l)
		}
	}
	widen(reflect.ValueOf(&x).Elem())
	return x
}

// isAsRoomy holds that nothing has changed of what roomy made of a thing.
func isAsRoomy[T any](t *testing.T, got, was T) {
	t.Helper()
	if !reflect.DeepEqual(whole(got), whole(roomy(was))) {
		t.Errorf("%v became %v", was, got)
	}
}

// spoil changes all that a thing's lists have, and the room behind them.
func spoil(x any) {
	eachList(reflect.ValueOf(x), func(v reflect.Value) {
		v = v.Slice(0, v.Cap())
		for k := range v.Len() {
			fill(v.Index(k))
		}
	})
}

// isApart holds that no two lists that are told share memory, the room behind their ends among it.
func isApart(t *testing.T, things ...any) {
	t.Helper()
	seen := map[uintptr]int{}
	for _, x := range things {
		eachList(reflect.ValueOf(x), func(v reflect.Value) {
			room := v.Slice(0, v.Cap())
			for k := range room.Len() {
				seen[room.Index(k).Addr().Pointer()]++
			}
		})
	}
	for _, times := range seen {
		if times > 1 {
			t.Errorf("%v share memory", things)
			return
		}
	}
	if len(seen) == 0 {
		t.Error("no lists")
	}
}

// R3: what is handed in stays as it was; what is answered may be changed without changing that, and the other way round.
func TestMemory(t *testing.T) {
	given := tables(t, few)
	for _, b := range boundOf(t, 143, 300) {
		c, in := roomy(given), roomy(b)
		want, _ := byRule(given, b)
		isTree(t, want)(lower.Lower(c, in))
		got, _ := lower.Lower(c, in)
		isApart(t, got, c, in)
		spoil(got)
		isAsRoomy(t, c, given)
		isAsRoomy(t, in, b)
		got, _ = lower.Lower(c, in)
		one, _ := lower.Select(c, in.Selects[0])
		isApart(t, got, one, c, in)
		first, _ := selectByRule(given, b.Selects[0])
		spoil(c)
		spoil(in)
		isTree(t, want)(got, api.OK)
		isTree(t, first)(one, api.OK)
	}
}

// R3: what is refused stays as it was, too.
func TestRefusedStays(t *testing.T) {
	c := tables(t, few)
	bad := query([]int{api.VInt}, from(0, col(0), col(1)), from(9, num(1)), api.BSelect{Tables: []int{0, 1}, Keys: []int{3}, Aggs: []api.Agg{agg(api.AggSum, col(1))}, Having: num(1)})
	in, tables := roomy(bad), roomy(c)
	for range 3 {
		isNone(t, api.ErrBound)(lower.Lower(tables, in))
		for _, s := range in.Selects {
			lower.Select(tables, s)
		}
	}
	isAsRoomy(t, in, bad)
	isAsRoomy(t, tables, c)
	x := roomy(asked())
	lower.Same(x, roomy(asked()))
	lower.Same(roomy(asked()), x)
	isAsRoomy(t, x, asked())
}

// R3, R5: of one text each answer has memory of its own, and is the same.
func TestQueryAgain(t *testing.T) {
	c := tables(t, few)
	const text = "SELECT DISTINCT p.a AS n, COUNT(*), MIN(e) FROM t p LEFT JOIN v ON p.b = e GROUP BY p.a HAVING COUNT(*) > 1 UNION ALL SELECT a, 1, NULL FROM u ORDER BY n DESC LIMIT 7"
	first, _, e := lower.Query(c, text)
	if e != api.OK {
		t.Fatal(e)
	}
	want := copyOf(first)
	for range 20 {
		given := roomy(c)
		got, at, e := lower.Query(given, text)
		if e != api.OK || at != 0 || !same(got, want) {
			t.Fatal(got, at, e)
		}
		isApart(t, got, first, given)
		isAsRoomy(t, given, c)
		spoil(got)
		isAsRoomy(t, given, c)
		if !same(first, want) {
			t.Fatal(first)
		}
	}
}
