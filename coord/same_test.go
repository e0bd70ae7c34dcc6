package coord_test

import (
	"math"
	"reflect"
	"slices"
	"testing"

	"bowsprit/api"
	"bowsprit/coord"
)

// variant is a thing with the thing of a number changed, if there are so many: each number, truth and text in it, each list shorter and longer.
func variant[T any](x T, number int) (T, bool) {
	x = copyOf(x)
	is := changeAt(reflect.ValueOf(&x).Elem(), &number)
	return x, is
}

// things are how many there are that can be changed.
func things[T any](x T) int {
	left := math.MaxInt
	changeAt(reflect.ValueOf(&x).Elem(), &left)
	return math.MaxInt - left
}

// variants are a thing with each of these changed.
func variants[T any](x T) (l []T) {
	for k := range things(x) {
		y, _ := variant(x, k)
		l = append(l, y)
	}
	return l
}

// changeAt does the change of a number, if there are so many; else it counts down.
func changeAt(v reflect.Value, left *int) bool {
	switch v.Kind() {
	case reflect.Struct:
		for k := range v.NumField() {
			if changeAt(v.Field(k), left) {
				return true
			}
		}
		return false
	case reflect.Slice:
		for k := range v.Len() {
			if changeAt(v.Index(k), left) {
				return true
			}
		}
		if *left--; *left == -1 {
			v.Set(reflect.Append(v, reflect.Zero(v.Type().Elem())))
			return true
		}
		if v.Len() == 0 {
			return false
		}
		if *left--; *left == -1 {
			v.SetLen(v.Len() - 1)
			return true
		}
		return false
	}
	if *left--; *left == -1 {
		nudge(v)
		return true
	}
	return false
}

// nudge makes something else of a thing that is no list and no struct, as near to it as may be.
func nudge(v reflect.Value) {
	switch v.Kind() {
	case reflect.Int, reflect.Int64:
		v.SetInt(v.Int() ^ 1)
	case reflect.Uint32, reflect.Uint64:
		v.SetUint(v.Uint() ^ 1)
	case reflect.String:
		v.SetString(v.String() + "a")
	case reflect.Bool:
		v.SetBool(!v.Bool())
	}
}

// isSame holds whether two coordinators are the same, whichever stands first.
func isSame(t *testing.T, want bool, a, b api.Coord) {
	t.Helper()
	if coord.Same(a, b) != want || coord.Same(b, a) != want {
		t.Errorf("%v and %v: %v, %v, not %v", a, b, coord.Same(a, b), coord.Same(b, a), want)
	}
}

// stuffed is a coordinator that may not be: all of its fields have something, and all fields of all that it has.
func stuffed() api.Coord {
	node := api.LNode{Op: 1, A: 2, B: 3, Table: 4, Kinds: []int{5}, Left: true, Cond: bad(6, 7), Keys: []int{8}, Aggs: []api.Agg{agg(9, col(1))}, Items: []api.Expr{num(1)}, Order: []api.Ord{{Col: 10, Desc: true}}, Limit: 11}
	f := api.Frag{Nodes: []api.LNode{node, {}}, At: 26, Way: 27, Cols: []int{28}}
	b := api.Batch{Rows: list("1 'a' / NULL"), End: true, Count: 12}
	s := api.Sender{Session: 13, Base: 14, Queue: []api.Batch{b}, Sent: 15, Limit: 16, Timer: 17, Ended: true}
	r := api.Receiver{Session: 18, Next: 19, Ahead: []api.Held{{Seq: 20, Batch: b}}, Buffer: []api.Batch{b}, Room: 21, Over: true}
	x := api.Task{
		Epoch: 22, Sites: 23, Number: 24, Node: 25, Frag: f, State: 29,
		Ins: []api.In{{Frag: 30, From: 31, Receiver: r, Rows: list("1 / S5")}}, Outs: []api.Out{{To: 33, Sender: s, Rest: list("TRUE / 5 6")}}, Rows: list("'a' / 'b'"), Err: 34,
	}
	w := api.Worker{Node: 40, Sites: 41, Catalog: cat(tab("", "a int b text", 42, 43), tab("z", "")), Tables: [][]api.Row{list("1 'a' / NULL"), nil}, Tasks: []api.Task{x, {Number: 44}}, Has: 45, Gone: 46}
	l := api.Life{
		Epoch: 50, State: 51, Program: api.Program{Plan: planOf(f, api.Frag{At: 16}), Names: []string{"a", "", "b"}},
		Report: api.Report{Err: 52, At: 53, Names: []string{"c", "d"}, Rows: list("1 'a' / NULL / S5 TRUE")},
	}
	return copyOf(api.Coord{Worker: w, Entries: []api.Entry{{Life: l, Has: 54, Gone: 55}, {Has: 56}}})
}

// P28.1: whatever is another field, of the worker, of one entry, of one life and all that it has: they are not the same; such as may not be are held against one another, too.
func TestSame(t *testing.T) {
	count := 0
	all := []api.Coord{full(), filled(5), plain(), stuffed(), {}, ended(full(), 2, came(list("1"), "c"))}
	for k, c := range all {
		for n, other := range all {
			isSame(t, n == k, c, copyOf(other))
		}
		l := variants(c)
		for n, v := range l {
			isSame(t, false, c, v)
			isSame(t, true, v, copyOf(v))
			other := l[(n+1)%len(l)]
			isSame(t, same(v, other), v, other)
			count++
		}
	}
	if count < 1500 {
		t.Error(count)
	}
}

// P28.1: each field alone, at numbers that might fall together in fewer bytes, or if two fields were put together.
func TestSameOfEachField(t *testing.T) {
	l := []api.Coord{{}, {Entries: []api.Entry{{}}}, {Entries: []api.Entry{{}, {}}}}
	put := func(x api.Entry) {
		l = append(l, api.Coord{Entries: []api.Entry{x}}, api.Coord{Entries: []api.Entry{{}, x}}, api.Coord{Entries: []api.Entry{x, {}}})
	}
	for _, n := range []int{1, -1, 2, 256, 1 << 32, 1<<32 + 1, -256} {
		for _, w := range []api.Worker{{Node: n}, {Sites: n}, {Tasks: []api.Task{{Epoch: n}}}, {Tasks: []api.Task{{Number: n}}}} {
			l = append(l, api.Coord{Worker: w})
		}
		put(api.Entry{Life: api.Life{Epoch: n}})
		put(api.Entry{Life: api.Life{State: n}})
		put(api.Entry{Life: api.Life{Report: failed(api.Errno(n), 0)}})
		put(api.Entry{Life: api.Life{Report: failed(0, n)}})
	}
	for _, set := range []uint32{1, 2, 3, 1 << 16, 1 << 31, 1<<16 + 1} {
		l = append(l, api.Coord{Worker: api.Worker{Has: set}}, api.Coord{Worker: api.Worker{Gone: set}})
		put(api.Entry{Has: set})
		put(api.Entry{Gone: set})
		put(api.Entry{Has: set, Gone: set})
	}
	for _, names := range [][]string{{""}, {"", ""}, {"a"}, {"a", "b"}, {"b", "a"}, {"ab"}} {
		put(api.Entry{Life: api.Life{Program: api.Program{Names: names}}})
		put(api.Entry{Life: api.Life{Report: api.Report{Names: names}}})
	}
	for _, rows := range [][]api.Row{{{}}, {{}, {}}, list("1"), list("1 1"), list("1 / 1"), list("'1'"), list("NULL"), {{{Kind: 9}}}} {
		put(api.Entry{Life: api.Life{Report: api.Report{Rows: rows}}})
	}
	for _, p := range []api.Plan{small(), faulty(), twice(), odd(), planOf(api.Frag{})} {
		put(api.Entry{Life: api.Life{Program: api.Program{Plan: p}}})
	}
	for _, a := range l {
		for _, b := range l {
			isSame(t, same(a, b), a, b)
		}
	}
}

// P28.1: the same entries, tasks, names and rows, but in another order; some less, some more.
func TestSameOrder(t *testing.T) {
	c := full()
	for k := range len(c.Entries) - 1 {
		isSame(t, false, c, of(c, func(c *api.Coord) { c.Entries[k], c.Entries[k+1] = c.Entries[k+1], c.Entries[k] }))
		isSame(t, false, c, of(c, func(c *api.Coord) { c.Entries[k].Has, c.Entries[k].Gone = 1, 6 }))
		isSame(t, false, of(c, func(c *api.Coord) { c.Entries[k].Has, c.Entries[k].Gone = 6, 1 }), of(c, func(c *api.Coord) { c.Entries[k].Has, c.Entries[k].Gone = 1, 6 }))
		isSame(t, false, c, of(c, func(c *api.Coord) { c.Entries = slices.Delete(c.Entries, k, k+1) }))
		isSame(t, false, c, of(c, func(c *api.Coord) { c.Entries = slices.Insert(c.Entries, k, c.Entries[k]) }))
	}
	for _, change := range []func(c *api.Coord){
		func(c *api.Coord) { slices.Reverse(c.Entries) },
		func(c *api.Coord) { slices.Reverse(c.Worker.Tasks) },
		func(c *api.Coord) { c.Worker.Has, c.Worker.Gone = c.Worker.Gone, c.Worker.Has },
		func(c *api.Coord) { slices.Reverse(c.Worker.Catalog.Tables) },
		func(c *api.Coord) { slices.Reverse(c.Entries[2].Life.Report.Rows) },
		func(c *api.Coord) { slices.Reverse(c.Entries[1].Life.Program.Plan.Frags) },
		func(c *api.Coord) { c.Entries[1].Life.Program.Plan, c.Entries[5].Life.Program.Plan = faulty(), small() },
	} {
		isSame(t, false, c, of(c, change))
	}
	isSame(t, true, c, of(c, func(c *api.Coord) { c.Entries[1].Life.Program.Plan, c.Entries[4].Life.Program.Plan = small(), small() })) // both are
}

// P28.1, R3: nil and empty lists are one; what stands behind a list's end is nothing to it.
func TestSameOfNothing(t *testing.T) {
	isSame(t, true, api.Coord{}, api.Coord{Worker: api.Worker{Catalog: api.Catalog{Tables: []api.Table{}}, Tables: [][]api.Row{}, Tasks: []api.Task{}}, Entries: []api.Entry{}})
	isSame(t, false, api.Coord{}, api.Coord{Entries: []api.Entry{{}}})
	empty := api.Life{Program: api.Program{Plan: api.Plan{Frags: []api.Frag{}}, Names: []string{}}, Report: api.Report{Names: []string{}, Rows: []api.Row{}}}
	isSame(t, true, api.Coord{Entries: []api.Entry{{}}}, api.Coord{Entries: []api.Entry{{Life: empty}}})
	for _, c := range []api.Coord{full(), filled(12), plain(), stuffed()} {
		isSame(t, true, c, roomy(c))
		isSame(t, true, roomy(c), roomy(roomy(c)))
	}
}
