package query_test

import (
	"math"
	"strings"

	"bowsprit/api"
)

// tables are those of most texts: t by a, u, and v, which has columns of all kinds, by two of them.
func tables() api.Catalog {
	return cat(tab("t", "a int b int", 0), tab("u", "c int"), tab("v", "d text e bool f int", 0, 1))
}

// The scans of these.
func scanT() api.LNode { return scan(0, ki, ki) }
func scanU() api.LNode { return scan(1, ki) }
func scanV() api.LNode { return scan(2, kt, kb, ki) }

// small is a plan of just two fragments.
func small() api.Plan {
	return planOf(onAll(api.WayGather, scanU()), root(input(0, ki)))
}

// runs is a life that runs, of a plan and what its columns are called.
func runs(epoch int, p api.Plan, names ...string) api.Life {
	return api.Life{Epoch: epoch, State: api.LifeRuns, Program: api.Program{Plan: p, Names: names}}
}

// over is a life that has a report.
func over(epoch int, r api.Report) api.Life {
	return api.Life{Epoch: epoch, State: api.LifeOver, Report: r}
}

// has is a report of rows, of columns that are called so.
func has(rows []api.Row, names ...string) api.Report {
	return api.Report{Names: names, Rows: rows}
}

// failed is a report of an error, which has a place, if it is a static one.
func failed(e api.Errno, at int) api.Report {
	return api.Report{Err: e, At: at}
}

// running are lives that run: of names none, one, several, of plans that may be and that may not.
func running() []api.Life {
	odd := api.Frag{Nodes: []api.LNode{{Op: 99, Items: []api.Expr{{}}}}, At: 7, Way: -1, Cols: []int{-5}}
	return []api.Life{
		runs(1, small(), "c"), runs(2, small()), runs(3, small(), ""), runs(api.MaxEpochs, small(), "a", "", "a"),
		runs(5, planOf(api.Frag{})), runs(6, planOf(odd), "", ""), runs(7, planOf(onAll(api.WayCast, scanT()), api.Frag{}, odd), strings.Split("abcdefghijklmnop", "")...),
	}
}

// ended are lives that are over, by each of their ends.
func ended() []api.Life {
	return []api.Life{
		over(1, has(list("1 / 2"), "a")), over(2, has(nil, "a", "b")), over(3, api.Report{}), over(4, has(list("1 'a' NULL / NULL 'it' TRUE"), "a", "", "x")),
		over(5, failed(api.ErrFault, 0)), over(6, failed(api.ErrOver, 0)), over(7, failed(api.ErrCancel, 0)),
		over(8, failed(api.ErrName, 0)), over(api.MaxEpochs, failed(api.ErrParse, 90)), over(9, failed(-1, math.MaxInt)), over(10, has(list("S5"), "s")), over(11, has([]api.Row{{}, {}})),
	}
}

// long has just as many bytes as a text may have, or one more.
func long(more int) api.Value {
	return text(strings.Repeat("a", api.MaxText+more))
}

// wrongValues may not be.
func wrongValues() []api.Value {
	return []api.Value{
		{N: 1}, {U: 1}, {S: "a"}, {Kind: kb, N: 2}, {Kind: kb, N: -1}, {Kind: kb, U: 1}, {Kind: kb, N: 1, S: "a"}, {Kind: ki, S: "a"}, {Kind: ki, N: 5, U: 1}, {Kind: kt, N: 1}, {Kind: kt, U: 1}, {Kind: kt, N: 3, S: "a"},
		{Kind: ks, S: "a"}, {Kind: ks, N: 1, U: 1, S: "a"}, long(1), {Kind: 5}, {Kind: -1}, {Kind: math.MaxInt}, {Kind: 1 << 32},
	}
}

// rightValues may be: of each kind, at its ends, and of sums under way.
func rightValues() []api.Value {
	return []api.Value{
		null, no, yes, number(0), number(-1), number(math.MaxInt64), number(math.MinInt64), text(""), text("a"), text("'"), text("\x00\xff"), long(0), under(0), under(-5),
		{Kind: ks, N: math.MinInt64, U: math.MaxUint64},
	}
}

// states are numbers that are no state of a life.
func states() []int {
	return append([]int{-2, -1, 0, 3, 4, 5, 255, 256, 257, 258}, far()...)
}

// far are numbers far from all that there may be, some of them like such in fewer bytes.
func far() []int {
	return []int{math.MinInt, -1 << 32, math.MaxInt, 1 << 31, 1<<32 + 1, 1<<32 + 2, 1<<32 + 12, 1<<63 - 1<<32}
}

// noLives are lives that may not be, each in another way, of lives that run and that are over.
func noLives() []api.Life {
	l := []api.Life{{}, {Epoch: 1}, {State: api.LifeOver}, {Epoch: 1, State: api.LifeRuns}, {Epoch: 1, State: 3}, runs(0, small(), "c"), runs(api.MaxEpochs+1, small(), "c"), runs(-1, small(), "c"), over(0, api.Report{}), over(api.MaxEpochs+1, failed(api.ErrCancel, 0))}
	for k, x := range append(running(), ended()...) {
		for _, change := range []func(l *api.Life){
			func(l *api.Life) { l.Epoch = 0 },
			func(l *api.Life) { l.Epoch = api.MaxEpochs + 1 },
			func(l *api.Life) { l.State = 0 },
			func(l *api.Life) { l.State = 3 },
			func(l *api.Life) {
				l.Program, l.Report = api.Program{Plan: small(), Names: []string{"c"}}, has(list("1"), "c")
			},
			func(l *api.Life) { l.Program, l.Report = api.Program{Plan: small()}, failed(api.ErrCancel, 0) },
			func(l *api.Life) { l.Program, l.Report = api.Program{Plan: small()}, failed(api.ErrParse, 5) },
			func(l *api.Life) { l.Program, l.Report = api.Program{Plan: small()}, failed(api.OK, 1) },
			func(l *api.Life) { l.Program, l.Report = api.Program{Names: []string{""}}, api.Report{} },
			func(l *api.Life) { l.Program, l.Report = api.Program{}, failed(api.ErrFault, 1) },
			func(l *api.Life) { l.Program, l.Report = api.Program{}, failed(api.ErrName, -1) },
			func(l *api.Life) { l.Program, l.Report = api.Program{}, failed(api.OK, 1) },
			func(l *api.Life) { l.Program, l.Report = api.Program{}, has(list("1")) },
			func(l *api.Life) { l.Program, l.Report = api.Program{}, has(list("1 2"), "a") },
			func(l *api.Life) { l.Program, l.Report = api.Program{}, has([]api.Row{{wrongValues()[k]}}, "a") },
			func(l *api.Life) {
				l.Program, l.Report = api.Program{}, api.Report{Err: api.ErrOver, Names: []string{"a"}}
			},
			func(l *api.Life) { l.Program, l.Report = api.Program{}, api.Report{Err: api.ErrLex, Rows: list("1")} },
		} {
			l = append(l, changing(x, change))
		}
	}
	return l
}
