package exec_test

import (
	"math"
	"reflect"
	"testing"

	"bowsprit/api"
	"bowsprit/exec"
)

// own gives a thing memory of its own, with what stands in the room behind the ends of its lists.
func own(v reflect.Value) {
	switch v.Kind() {
	case reflect.Struct:
		for k := range v.NumField() {
			own(v.Field(k))
		}
	case reflect.Slice:
		l := reflect.MakeSlice(v.Type(), v.Cap(), v.Cap())
		reflect.Copy(l, v.Slice(0, v.Cap()))
		v.Set(l.Slice(0, v.Len()))
		for k := range v.Len() {
			own(v.Index(k))
		}
	}
}

// plain makes empty lists nil, those within lists too, so that both are the same.
func plain(v reflect.Value) {
	switch v.Kind() {
	case reflect.Struct:
		for k := range v.NumField() {
			plain(v.Field(k))
		}
	case reflect.Slice:
		if v.Len() == 0 {
			v.SetZero()
		}
		for k := range v.Len() {
			plain(v.Index(k))
		}
	}
}

// copyOf is a thing with memory of its own, of which empty lists are nil.
func copyOf[T any](x T) T {
	own(reflect.ValueOf(&x).Elem())
	plain(reflect.ValueOf(&x).Elem())
	return x
}

// same holds things against one another without the program.
func same[T any](a, b T) bool {
	return reflect.DeepEqual(copyOf(a), copyOf(b))
}

// data is what a run is handed.
type data struct {
	Tables, Inputs [][]api.Row
}

// reads has inputs alone, scans tables alone.
func reads(inputs ...[]api.Row) data {
	return data{Inputs: inputs}
}

func scans(tables ...[]api.Row) data {
	return data{Tables: tables}
}

// isRun holds what Run says of a fragment's nodes, wherever it is to run, and however it goes on.
func isRun(t *testing.T, l []api.LNode, d data, want []api.Row, err api.Errno) {
	t.Helper()
	for _, f := range []api.Frag{
		{Nodes: l, At: api.AtAll, Way: api.WayShuffle, Cols: []int{0}}, {Nodes: l},
		{Nodes: l, At: math.MinInt, Way: math.MaxInt, Cols: []int{-1, 99}},
	} {
		got, e := exec.Run(f, d.Tables, d.Inputs)
		if e != err || !same(got, want) {
			t.Errorf("%v of %v:\n%v, %v, not\n%v, %v", l, d, got, e, want, err)
		}
	}
}

// comesTo holds that steps come to rows.
func comesTo(t *testing.T, l []api.LNode, d data, want string) {
	t.Helper()
	isRun(t, steps(l...), d, list(want), api.OK)
}

// count holds that they come to so many rows; -1: they are too much.
func count(t *testing.T, l []api.LNode, d data, want int) {
	t.Helper()
	got, e := exec.Run(frag(l...), d.Tables, d.Inputs)
	if want < 0 && (e != api.ErrOver || len(got) != 0) || want >= 0 && (e != api.OK || len(got) != want) {
		t.Errorf("%v: %v rows, %v, not %v", l, len(got), e, want)
	}
}

// fails holds that they say an error, and nothing else.
func fails(t *testing.T, l []api.LNode, d data, want api.Errno) {
	t.Helper()
	isRun(t, steps(l...), d, nil, want)
}

// call is Partial, or Final.
type call func(n api.LNode, rows []api.Row) ([]api.Row, api.Errno)

// is holds what one of them comes to.
func is(t *testing.T, c call, n api.LNode, rows []api.Row, want string) {
	t.Helper()
	if got, e := c(n, rows); e != api.OK || !same(got, list(want)) {
		t.Errorf("%v of %v: %v, %v, not %v", n, rows, got, e, list(want))
	}
}

// isNone holds which error it says.
func isNone(t *testing.T, c call, n api.LNode, rows []api.Row, want api.Errno) {
	t.Helper()
	if got, e := c(n, rows); e != want || len(got) != 0 {
		t.Errorf("%v of %v: %v, %v, not %v", n, rows, got, e, want)
	}
}

// goTo holds where rows go.
func goTo(t *testing.T, f api.Frag, rows []api.Row, nodes int, want ...[]api.Row) {
	t.Helper()
	if got, e := exec.Goes(f, rows, nodes); e != api.OK || !same(got, want) {
		t.Errorf("%v of %v, %v: %v, %v, not %v", f, rows, nodes, got, e, want)
	}
}

// goNowhere holds which error Goes says.
func goNowhere(t *testing.T, f api.Frag, rows []api.Row, nodes int, want api.Errno) {
	t.Helper()
	if got, e := exec.Goes(f, rows, nodes); e != want || len(got) != 0 {
		t.Errorf("%v of %v, %v: %v, %v, not %v", f, rows, nodes, got, e, want)
	}
}
