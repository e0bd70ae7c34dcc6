package query_test

import (
	"math"
	"math/rand"
	"reflect"
	"strings"
	"testing"

	"bowsprit/api"
)

// strew changes a thing here and there by chance.
func strew(chance *rand.Rand, v reflect.Value) {
	odd := []uint64{0, 1, 2, 3, 4, 5, 7, 8, 9, 12, 13, 29, 30, 31, 32, 64, 140, 222, 300, 371, math.MaxInt64, 1 << 63, math.MaxUint64}
	n := odd[chance.Intn(len(odd))]
	here := chance.Intn(300) == 0
	switch v.Kind() {
	case reflect.Struct:
		for k := range v.NumField() {
			strew(chance, v.Field(k))
		}
	case reflect.Slice:
		for k := range v.Len() {
			strew(chance, v.Index(k))
		}
		switch {
		case here && v.Len() > 0 && chance.Intn(2) == 0:
			v.Set(reflect.AppendSlice(v, v.Slice(0, 1+chance.Intn(v.Len()))))
		case here && v.Len() > 0:
			v.SetLen(chance.Intn(v.Len()))
		case here:
			v.Set(reflect.MakeSlice(v.Type(), 1+chance.Intn(3), 4))
		}
	case reflect.Bool:
		v.SetBool(v.Bool() != here)
	case reflect.String:
	default:
		switch {
		case !here:
		case v.CanInt() && chance.Intn(2) == 0:
			v.SetInt(v.Int() + int64(n%3) - 1)
		case v.CanInt():
			v.SetInt(int64(n))
		case chance.Intn(2) == 0:
			v.SetUint(v.Uint() + n%3 - 1)
		default:
			v.SetUint(n)
		}
	}
}

// R1, R2: whatever is handed in, each call ends, and answers what it is to by rule; beside an error there is nothing but a text's place.
func TestWhatever(t *testing.T) {
	m := newMaker(277)
	met, changed := map[string]tally{}, 0
	lives := append(append(running(), ended()...), stuffed())
	for range 3500 {
		l := lives[m.Intn(len(lives))]
		width := len(l.Program.Names)
		g := given{Life: l, Other: l, Catalog: tables(), Epoch: m.Intn(14), Text: m.text(tables()), Rows: rowsOf(m.Intn(3), width), Err: []api.Errno{api.ErrFault, api.ErrOver}[m.Intn(2)]}
		g = copyOf(g)
		strew(m.Rand, reflect.ValueOf(&g).Elem())
		for _, name := range names() {
			got := asRule(t, name, g)
			if met[name] == nil {
				met[name] = tally{}
			}
			met[name][got.Err]++
			if got.Err != api.OK && !same(got, answer{Err: got.Err, At: got.At}) || got.At != 0 && name != "Compile" {
				t.Errorf("%v of %v: %v", name, g, got)
			}
			if name == "Same" && !got.Is {
				changed++
			}
		}
	}
	met["Check"].metAll(t, api.OK, api.ErrLife)
	met["Begin"].metAll(t, api.OK, api.ErrCatalog, api.ErrArg)
	met["Rows"].metAll(t, api.OK, api.ErrLife, api.ErrReported, api.ErrArg)
	met["Fail"].metAll(t, api.OK, api.ErrLife, api.ErrReported, api.ErrArg)
	met["Cancel"].metAll(t, api.OK, api.ErrLife, api.ErrReported)
	met["Text"].metAll(t, api.OK, api.ErrLife, api.ErrArg)
	if changed < 200 || met["Compile"][api.OK] < 500 || met["Check"][api.ErrLife] < 150 {
		t.Error(changed, met)
	}
}

// R1: texts of whatever bytes, cut anywhere, with one byte another one, end in a life that may be.
func TestWhateverText(t *testing.T) {
	m := newMaker(278)
	met := tally{}
	c := tables()
	for range 4000 {
		text := m.text(c)
		switch m.Intn(5) {
		case 0:
			text = text[:m.Intn(len(text)+1)]
		case 1:
			at := m.Intn(len(text))
			text = text[:at] + string(rune(m.Intn(300))) + text[at+1:]
		case 2:
			text += m.text(c)
		case 3:
			text = strings.Repeat(string([]byte{byte(m.Intn(256)), byte(m.Intn(256))}), m.Intn(400))
		}
		got := asRule(t, "Begin", given{Catalog: c, Epoch: 1 + m.Intn(api.MaxEpochs), Text: text})
		if got.Err != api.OK {
			t.Errorf("%q: %v", text, got.Err)
		}
		met[got.Life.Report.Err]++
	}
	for _, e := range []api.Errno{api.OK, api.ErrLong, api.ErrLex, api.ErrParse, api.ErrName} {
		if met[e] < 20 {
			t.Error(e, met)
		}
	}
}
