package query_test

import (
	"math"
	"testing"

	"bowsprit/api"
)

// P27.3: lives that run, and lives that are over, by each of their ends.
func TestLives(t *testing.T) {
	for _, l := range append(running(), ended()...) {
		isLife(t, true, l)
	}
	for _, l := range noLives() {
		isLife(t, false, l)
	}
}

// P27.3: Epochs, just and by one more, and far from all.
func TestEpochs(t *testing.T) {
	for _, l := range append(running(), ended()...) {
		for epoch := -3; epoch <= api.MaxEpochs+3; epoch++ {
			l.Epoch = epoch
			isLife(t, epoch >= 1 && epoch <= api.MaxEpochs, l)
		}
		for _, epoch := range far() {
			l.Epoch = epoch
			isLife(t, false, l)
		}
	}
}

// P27.3: States: of what runs, of what is over, other ones.
func TestStates(t *testing.T) {
	for _, l := range append(running(), ended()...) {
		right := l.State
		for _, state := range append(states(), api.LifeRuns, api.LifeOver) {
			l.State = state
			may := state == right
			if len(l.Program.Plan.Frags) == 0 && same(l.Report, api.Report{}) {
				may = state == api.LifeOver // a report of no names and no rows is one, but no program is
			}
			isLife(t, may, l)
		}
	}
	for _, state := range append(states(), api.LifeRuns) {
		isLife(t, false, api.Life{Epoch: 1, State: state})
	}
	isLife(t, true, api.Life{Epoch: 1, State: api.LifeOver})
}

// P27.3: a Program: without a fragment, with one, with more than a plan may have; whatever its columns are called.
func TestPrograms(t *testing.T) {
	names := [][]string{nil, {""}, {"a"}, {"a", "a"}, {"A", "select", " ", "\x00", ""}, make([]string, api.MaxWidth+1), make([]string, 300)}
	for _, l := range names {
		isLife(t, false, runs(1, api.Plan{}, l...))
		isLife(t, true, runs(1, planOf(api.Frag{}), l...))
		isLife(t, true, runs(1, small(), l...))
		isLife(t, true, runs(1, planOf(make([]api.Frag, api.MaxFrags+1)...), l...))
	}
}

// P27.3: of what runs there is no Report, in no field; of what is over there is no Program, in no field.
func TestOneOfBoth(t *testing.T) {
	l := runs(3, small(), "c")
	for _, r := range []api.Report{{Err: api.ErrFault}, {Err: api.ErrCancel}, {Err: -1}, {Err: 1}, {At: 1}, {At: -1}, {Names: []string{""}}, {Names: []string{"c"}}, {Rows: []api.Row{{}}}, {Rows: list("1")}, has(list("1"), "c"), failed(api.ErrName, 4)} {
		l.Report = r
		isLife(t, false, l)
	}
	l.Report = api.Report{}
	isLife(t, true, l)
	for _, l := range ended() {
		isLife(t, true, l)
		for _, p := range []api.Program{{Names: []string{""}}, {Names: l.Report.Names, Plan: small()}, {Plan: small()}, {Plan: planOf(api.Frag{})}, {Names: []string{"a", "b"}}} {
			l.Program = p
			isLife(t, false, l)
		}
	}
}

// P27.3: rows of one value too few and too many, wherever they stand; of no values, if there are no names.
func TestWidthsOfRows(t *testing.T) {
	all := list("/ 1 / 1 2 / 1 2 3 / 1 2 3 4 5 6 7 8 9 10 11 12 13 14 15 16 / 1 2 3 4 5 6 7 8 9 10 11 12 13 14 15 16 17")
	for width := range api.MaxWidth + 3 {
		names := make([]string, width)
		isLife(t, true, over(1, has(nil, names...)))
		for _, r := range all {
			may := len(r) == width && width <= api.MaxWidth
			isLife(t, may, over(1, has([]api.Row{r}, names...)))
			isLife(t, may, over(1, has([]api.Row{r, r, r}, names...)))
			for _, other := range all {
				both := may && len(other) == len(r)
				isLife(t, both, over(1, has([]api.Row{r, other}, names...)))
				isLife(t, both, over(1, has([]api.Row{r, r, other, r}, names...)))
			}
		}
	}
}

// P27.3: values of all kinds, such as may be and such as may not, in each place.
func TestValuesOfRows(t *testing.T) {
	for _, v := range rightValues() {
		isLife(t, true, over(1, has([]api.Row{{v}}, "a")))
		isLife(t, true, over(1, has([]api.Row{{null, v}, {v, v}}, "a", "b")))
	}
	for _, v := range wrongValues() {
		isLife(t, false, over(1, has([]api.Row{{v}}, "a")))
		isLife(t, false, over(1, has([]api.Row{{v, null}, {null, null}}, "a", "b")))
		isLife(t, false, over(1, has([]api.Row{{null, v}, {null, null}}, "a", "b")))
		isLife(t, false, over(1, has([]api.Row{{null, null}, {null, yes}, {null, v}}, "a", "b")))
	}
}

// P27.3: a report may have more rows than a list: each row is asked by itself.
func TestManyRows(t *testing.T) {
	rows := make([]api.Row, api.MaxList+1)
	for k := range rows {
		rows[k] = api.Row{null}
	}
	isLife(t, true, over(1, has(rows, "a")))
	rows[api.MaxList] = api.Row{null, null}
	isLife(t, false, over(1, has(rows, "a")))
}

// P27.3: errors of all numbers, At of some, with names, with rows, with both.
func TestErrorsOfReports(t *testing.T) {
	errs := []api.Errno{-1, math.MinInt, -api.ErrFault, api.ErrNil, api.ErrArg, api.ErrLong, 4, 139, 141, api.ErrLex, api.ErrParse, api.ErrName, 299, 301, 370, 372, 1<<32 + 371, 1 << 32, math.MaxInt}
	for _, e := range append(errs, api.ErrFault, api.ErrOver, api.ErrCancel, api.OK) {
		static := e != api.OK && e != api.ErrFault && e != api.ErrOver && e != api.ErrCancel
		for _, at := range append(far(), -2, -1, 0, 1, 2, 90, 600) {
			isLife(t, at == 0 || static && at > 0, over(2, failed(e, at)))
			isLife(t, e == api.OK && at == 0, over(2, api.Report{Err: e, At: at, Names: []string{"a"}}))
			isLife(t, e == api.OK && at == 0, over(2, api.Report{Err: e, At: at, Names: []string{"a"}, Rows: list("1")}))
			isLife(t, e == api.OK && at == 0, over(2, api.Report{Err: e, At: at, Rows: []api.Row{{}}}))
			isLife(t, false, over(2, api.Report{Err: e, At: at, Rows: list("1")}))
		}
	}
}

// P27.3: lives with something changed in them.
func TestCheckByRule(t *testing.T) {
	met := tally{}
	for _, l := range append(append(running(), ended()...), noLives()...) {
		for _, v := range variants(l) {
			met[asRule(t, "Check", given{Life: v}).Err]++
		}
	}
	met.metAll(t, api.OK, api.ErrLife)
	if met[api.OK] < 200 || met[api.ErrLife] < 1000 {
		t.Error(met)
	}
}
