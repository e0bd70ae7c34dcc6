package bind_test

import (
	"reflect"
	"testing"

	"bowsprit/api"
	"bowsprit/bind"
)

// eachList goes to all lists that a thing has, those within lists too.
func eachList(v reflect.Value, visit func(reflect.Value)) {
	switch v.Kind() {
	case reflect.Struct:
		for k := range v.NumField() {
			eachList(v.Field(k), visit)
		}
	case reflect.Slice:
		for k := range v.Len() {
			eachList(v.Index(k), visit)
		}
		visit(v)
	}
}

// roomy gives each list of a thing room behind its end, and in that something.
func roomy[T any](x T) T {
	eachList(reflect.ValueOf(&x).Elem(), func(v reflect.Value) {
		room := reflect.MakeSlice(v.Type(), v.Len()+3, v.Len()+3)
		reflect.Copy(room, v)
		fill(room.Index(v.Len()))
		fill(room.Index(v.Len() + 2))
		v.Set(room.Slice(0, v.Len()))
	})
	return x
}

// fill changes all that is no list in a thing.
func fill(v reflect.Value) {
	switch v.Kind() {
	case reflect.Struct:
		for k := range v.NumField() {
			fill(v.Field(k))
		}
	case reflect.Int, reflect.Int64:
		v.SetInt(v.Int() ^ 0x55)
	case reflect.Uint64:
		v.SetUint(v.Uint() ^ 0x55)
	case reflect.String:
		v.SetString(v.String() + "spoiled")
	case reflect.Bool:
		v.SetBool(!v.Bool())
	}
}

// whole is a thing with all of the room behind its lists.
func whole[T any](x T) T {
	eachList(reflect.ValueOf(&x).Elem(), func(v reflect.Value) { v.Set(v.Slice(0, v.Cap())) })
	return x
}

// spoil changes all that a thing's lists have, and the room behind them.
func spoil(x any) {
	eachList(reflect.ValueOf(x), func(v reflect.Value) {
		v = v.Slice(0, v.Cap())
		for k := range v.Len() {
			fill(v.Index(k))
		}
	})
}

// isApart holds that no two lists that are told share memory, the room behind their ends among it.
func isApart(t *testing.T, things ...any) {
	t.Helper()
	seen := map[uintptr]int{}
	for _, x := range things {
		eachList(reflect.ValueOf(x), func(v reflect.Value) {
			room := v.Slice(0, v.Cap())
			for k := range room.Len() {
				seen[room.Index(k).Addr().Pointer()]++
			}
		})
	}
	if len(seen) == 0 {
		t.Error("no lists")
	}
	for _, times := range seen {
		if times > 1 {
			t.Errorf("%v share memory", things)
			return
		}
	}
}

const manySided = "SELECT DISTINCT x.a AS n, COUNT(*), MIN(e), MIN(e), x.a FROM t x LEFT JOIN v ON x.b = e JOIN u ON u.a = x.a AND c WHERE NOT x.a = 5 GROUP BY x.a, c HAVING c AND COUNT(*) > 1 UNION ALL SELECT 1, 2, b, NULL, a FROM t UNION ALL SELECT a, d, e, e, NULL FROM u JOIN v ON TRUE ORDER BY n DESC, 3 LIMIT 7"

// R3: what is handed in stays as it was, the room behind lists' ends too, be it refused or not.
func TestHandedInStays(t *testing.T) {
	texts := []string{manySided, "SELECT * FROM t UNION ALL SELECT NULL, NULL FROM t ORDER BY b", "SELECT a FROM t JOIN u ON TRUE", "SELECT a FROM t GROUP BY b", "SELECT a FROM t UNION ALL SELECT b FROM t", "SELECT a FROM t ORDER BY b"}
	for _, text := range texts {
		c, q := roomy(tables(t, few)), roomy(says(t, text))
		bind.Bind(c, q)
		bind.Columns(c, roomy([]int{0, 1, 2}))
		for _, s := range q.Selects {
			bind.Grouped(s)
		}
		if !reflect.DeepEqual(whole(c), whole(roomy(tables(t, few)))) || !reflect.DeepEqual(whole(q), whole(roomy(says(t, text)))) {
			t.Error(text)
		}
		b, _, _ := bind.Bind(c, q)
		x, y := roomy(b), roomy(b)
		bind.Same(x, y)
		for _, s := range x.Selects {
			bind.Widths(c, s)
		}
		if again, _, _ := bind.Bind(c, q); !reflect.DeepEqual(whole(x), whole(roomy(again))) || !reflect.DeepEqual(whole(x), whole(y)) {
			t.Error(text)
		}
	}
}

// R3: what is answered may be changed without changing what was handed in, and the other way round; no two of its lists are one.
func TestNewMemory(t *testing.T) {
	for _, text := range []string{manySided, "SELECT * FROM t JOIN v ON TRUE UNION ALL SELECT NULL, NULL, c, d, e, v.b FROM t JOIN v ON c", "SELECT a FROM u", "SELECT 1 FROM u GROUP BY a, a HAVING TRUE"} {
		c, q := roomy(tables(t, few)), roomy(says(t, text))
		b, _, e := bind.Bind(c, q)
		if e != api.OK {
			t.Fatal(text, e)
		}
		want := told(b)
		isApart(t, b, c, q)
		again, _, _ := bind.Bind(c, q)
		spoil(b)
		if !reflect.DeepEqual(whole(c), whole(roomy(tables(t, few)))) || !reflect.DeepEqual(whole(q), whole(roomy(says(t, text)))) || told(again) != want {
			t.Error(text)
		}
		spoil(c)
		spoil(q)
		if told(again) != want {
			t.Error(text, told(again))
		}
	}
	c, places := roomy(tables(t, few)), roomy([]int{2, 0})
	kinds, _ := bind.Columns(c, places)
	isApart(t, kinds, c, places)
	spoil(kinds)
	if !reflect.DeepEqual(whole(c), whole(roomy(tables(t, few)))) || places[0] != 2 || places[1] != 0 {
		t.Error(c, places)
	}
}

// R5: asked again it answers the same.
func TestAgain(t *testing.T) {
	c := tables(t, few)
	for _, text := range []string{manySided, "SELECT * FROM v JOIN t ON TRUE", "SELECT a FROM t JOIN u ON TRUE"} {
		b, at, e := bind.Bind(c, says(t, text))
		for range 50 {
			if x, place, err := bind.Bind(c, says(t, text)); !bind.Same(b, x) || place != at || err != e {
				t.Fatal(text, x, place, err)
			}
		}
	}
}
