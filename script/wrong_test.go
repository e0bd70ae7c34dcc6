package script_test

import (
	"math"
	"math/rand"
	"reflect"
	"testing"

	"bowsprit/api"
)

// noScripts are scripts that may not be, each for another reason.
func noScripts() []api.Script {
	l := []api.Script{{}, stuffed(), scriptOf(tables(), api.Layout{}, eachKind()...), playing(many(401, tick(0))...), textAt("a\nb")[1]}
	for _, change := range []func(s *api.Script){
		func(s *api.Script) { s.Catalog.Tables[1].Name = "t" }, func(s *api.Script) { s.Catalog.Tables = s.Catalog.Tables[:2] }, func(s *api.Script) { s.Layout.Parts = s.Layout.Parts[1:] }, func(s *api.Script) { s.Layout.Parts[1].Tables = nil },
		func(s *api.Script) { s.Layout.Parts[0].Tables[1] = list("'x' TRUE") }, func(s *api.Script) { s.Layout.Parts = append(s.Layout.Parts, make([]api.Base, 9)...) }, func(s *api.Script) { s.Events[4].Kind = 10 }, func(s *api.Script) { s.Events[0].Num = 1 },
		func(s *api.Script) { s.Events[8].At = 101 }, func(s *api.Script) { s.Events[0].Text = "\x7f" }, func(s *api.Script) { s.Events[5].To = -1 },
	} {
		l = append(l, of(plain(), change))
	}
	return l
}

// strew changes a thing here and there by chance.
func strew(chance *rand.Rand, v reflect.Value) {
	odd := []uint64{0, 1, 2, 3, 4, 8, 9, 10, 12, 13, 100, 101, 1<<31 - 1, 1 << 31, 1<<40 + 1, 1<<40 + 2, math.MaxInt64, 1 << 63, math.MaxUint64}
	n := odd[chance.Intn(len(odd))]
	here := chance.Intn(150) == 0
	switch v.Kind() {
	case reflect.Struct:
		for k := range v.NumField() {
			strew(chance, v.Field(k))
		}
	case reflect.Slice:
		for k := range v.Len() {
			strew(chance, v.Index(k))
		}
		switch {
		case here && v.Len() > 0 && chance.Intn(2) == 0:
			v.Set(reflect.AppendSlice(v, v.Slice(0, 1+chance.Intn(v.Len()))))
		case here && v.Len() > 0:
			v.SetLen(chance.Intn(v.Len()))
		case here:
			v.Set(reflect.MakeSlice(v.Type(), 1+chance.Intn(3), 4))
		}
	case reflect.Bool:
		v.SetBool(v.Bool() != here)
	case reflect.String:
		if here {
			v.SetString([]string{"", "a", "t0", " ", "'", "\n", "\x7f", "é", v.String() + " ", long(41)}[chance.Intn(10)])
		}
	default:
		switch {
		case !here:
		case v.CanInt() && chance.Intn(2) == 0:
			v.SetInt(v.Int() + int64(n%3) - 1)
		case v.CanInt():
			v.SetInt(int64(n))
		case chance.Intn(2) == 0:
			v.SetUint(v.Uint() + n%3 - 1)
		default:
			v.SetUint(n)
		}
	}
}

// R1, R2: whatever is handed in, each call ends, and answers what it is to by rule; beside an error there is nothing but a place.
func TestWhatever(t *testing.T) {
	t.Parallel()
	m := newMaker(307)
	met := map[string]tally{}
	for range 40 {
		first := m.farScript(t, 12)
		for range 5 {
			g := copyOf(given{Script: first, Other: first, Text: m.spoils(writtenByRule(first), "nodes 1\n")})
			strew(m.Rand, reflect.ValueOf(&g.Script).Elem())
			strew(m.Rand, reflect.ValueOf(&g.Other).Elem())
			for _, name := range names() {
				got := asRule(t, name, g)
				if met[name] == nil {
					met[name] = tally{}
				}
				met[name][got.Err]++
				if got.Err != api.OK && !same(got, answer{Err: got.Err, At: got.At}) {
					t.Errorf("%v of %v: %v", name, short(g), short(got))
				}
			}
		}
	}
	for _, name := range []string{"Check", "Print", "Parse", "Play", "Run"} {
		met[name].metAll(t, api.OK, api.ErrScript)
		if met[name][api.OK] < 50 || met[name][api.ErrScript] < 100 {
			t.Error(name, met[name])
		}
	}
}

// R1: texts of any bytes.
func TestAnyBytes(t *testing.T) {
	m := newMaker(308)
	for n := range 3000 {
		b := make([]byte, m.Intn(40))
		for k := range b {
			b[k] = byte(m.Intn(256))
			if n%2 == 0 {
				b[k] = "nodes 12\n'trow a-0"[m.Intn(18)]
			}
		}
		asRule(t, "Parse", given{Text: string(b)})
		asRule(t, "Parse", given{Text: simple() + string(b)})
		asRule(t, "Parse", given{Text: simple() + "row 1 t " + string(b) + "\n"})
		asRule(t, "Parse", given{Text: simple() + "row 2 u " + string(b) + " TRUE\n"})
	}
}
