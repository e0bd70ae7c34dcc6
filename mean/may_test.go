package mean_test

import (
	"math"
	"slices"
	"testing"

	"bowsprit/api"
	"bowsprit/mean"
)

// may holds what May says of a report.
func may(t *testing.T, want bool, m api.Mean, rows string, e api.Errno) {
	t.Helper()
	if got := mean.May(m, list(rows), e); got != want {
		t.Errorf("%v: %v, %v: %v", m, rows, e, got)
	}
}

// P21.4: of OK, if there is no end, and the rows are the same, in that order.
func TestMayBeRows(t *testing.T) {
	m := api.Mean{Rows: list("2 'b' / 1 NULL / 2 'b'")}
	may(t, true, m, "2 'b' / 1 NULL / 2 'b'", api.OK)
	for _, other := range []string{
		"1 NULL / 2 'b' / 2 'b'", "2 'b' / 2 'b' / 1 NULL", // another order
		"2 'b' / 1 NULL", "1 NULL / 2 'b'", "2 'b' / 2 'b'", "2 'b'", "", // less
		"2 'b' / 1 NULL / 2 'b' / 2 'b'", "2 'b' / 2 'b' / 1 NULL / 2 'b'", "NULL NULL / 2 'b' / 1 NULL / 2 'b'", // more
		"2 'b' / 1 NULL / 2 'c'", "2 'b' / 1 NULL / 3 'b'", "2 'b' / 1 0 / 2 'b'", "2 'b' / 1 / 2 'b'", "2 'b' / 1 NULL NULL / 2 'b'", "'b' 2 / NULL 1 / 'b' 2",
	} {
		may(t, false, m, other, api.OK)
	}
	may(t, true, api.Mean{}, "", api.OK)
	may(t, true, api.Mean{Rows: []api.Row{}}, "", api.OK)
	may(t, false, api.Mean{}, "1", api.OK)
	if !mean.May(api.Mean{}, []api.Row{}, api.OK) || !mean.May(api.Mean{Rows: []api.Row{{}}}, []api.Row{nil}, api.OK) || mean.May(api.Mean{}, []api.Row{{}}, api.OK) {
		t.Error("no rows, and a row of nothing")
	}
	for _, end := range []api.Mean{{Fault: true}, {Over: true}, {Fault: true, Over: true}} {
		may(t, false, end, "", api.OK)
		may(t, false, end, "1", api.OK)
		end.Rows = list("1")
		may(t, false, end, "1", api.OK)
		may(t, false, end, "", api.OK)
	}
}

// P21.4: of ErrFault, of ErrOver, if it has that end, and there are no rows.
func TestMayBeEnds(t *testing.T) {
	fault, tooMuch, both := api.Mean{Fault: true}, api.Mean{Over: true}, api.Mean{Fault: true, Over: true}
	may(t, true, fault, "", api.ErrFault)
	may(t, false, fault, "", api.ErrOver)
	may(t, false, tooMuch, "", api.ErrFault)
	may(t, true, tooMuch, "", api.ErrOver)
	may(t, true, both, "", api.ErrFault)
	may(t, true, both, "", api.ErrOver)
	for _, e := range []api.Errno{api.ErrFault, api.ErrOver} {
		for _, m := range []api.Mean{{}, {Rows: list("1")}, {Rows: []api.Row{}}} {
			may(t, false, m, "", e)
			may(t, false, m, "1", e)
		}
		may(t, false, both, "1", e) // rows beside an error
		may(t, false, both, "1 / 2", e)
		if !mean.May(both, []api.Row{}, e) || mean.May(both, []api.Row{{}}, e) || mean.May(both, []api.Row{nil}, e) {
			t.Error("no rows, and a row of nothing")
		}
		both.Rows = list("1") // what no plan means: there are no rows in the report
		may(t, true, both, "", e)
		may(t, false, both, "1", e)
		both.Rows = nil
	}
}

// means are such as plans mean, and whatever ones.
func means() []api.Mean {
	var l []api.Mean
	for _, rows := range [][]api.Row{nil, {}, list("1"), list("1 / 2"), list("2 / 1"), list("1 / 1"), list("NULL"), list("1 'a'"), {{}}, {{api.Value{Kind: 9, S: "x"}}}, counted(9000)} {
		for k := range 4 {
			l = append(l, api.Mean{Rows: rows, Fault: k%2 == 1, Over: k > 1})
		}
	}
	return l
}

// P21.4: of nothing else: each other error, of each mean; and of each mean each other one's rows.
func TestMayByRule(t *testing.T) {
	errors := []api.Errno{math.MaxInt, math.MinInt}
	for e := api.Errno(-500); e < 500; e++ {
		errors = append(errors, e)
	}
	yes := 0
	for _, m := range means() {
		for _, e := range errors {
			for _, rows := range [][]api.Row{nil, list("1")} {
				if got := mean.May(m, rows, e); got != mayByRule(m, rows, e) {
					t.Errorf("%v: %v, %v: %v", m, rows, e, got)
				}
			}
		}
		for _, other := range means() {
			for _, e := range []api.Errno{api.OK, api.ErrFault, api.ErrOver, api.ErrArg} {
				got := mean.May(m, other.Rows, e)
				if got != mayByRule(m, other.Rows, e) {
					t.Errorf("%v: %v, %v: %v", m, other.Rows, e, got)
				}
				if got {
					yes++
				}
			}
		}
	}
	if yes < 100 {
		t.Error(yes)
	}
}

// P21.1: Same of each two means, such as no plan means among them.
func TestSameOfEachTwo(t *testing.T) {
	for _, a := range means() {
		for _, b := range means() {
			if got := mean.Same(a, b); got != same(a, b) {
				t.Errorf("%v, %v: %v", a, b, got)
			}
		}
	}
}

// P21.1: Same of what differs in one thing: an end, a row, a value, a part of a value.
func TestSameButForOneThing(t *testing.T) {
	m := api.Mean{Rows: list("1 'a' NULL / 2 'b' S5 / TRUE FALSE 0")}
	changes := []func(m *api.Mean){
		func(m *api.Mean) { m.Fault = true },
		func(m *api.Mean) { m.Over = true },
		func(m *api.Mean) { m.Rows = m.Rows[:2] },
		func(m *api.Mean) { m.Rows = m.Rows[1:] },
		func(m *api.Mean) { m.Rows = nil },
		func(m *api.Mean) { m.Rows = append(m.Rows, nil) },
		func(m *api.Mean) { m.Rows = append(m.Rows, m.Rows[0]) },
		func(m *api.Mean) { slices.Reverse(m.Rows) },
	}
	for k, r := range m.Rows {
		changes = append(changes, func(m *api.Mean) { m.Rows[k] = m.Rows[k][:2] }, func(m *api.Mean) { m.Rows[k] = append(m.Rows[k], null) }, func(m *api.Mean) { m.Rows[k] = nil })
		for at := range r {
			changes = append(changes, func(m *api.Mean) { m.Rows[k][at].Kind++ }, func(m *api.Mean) { m.Rows[k][at].N += 2 }, func(m *api.Mean) { m.Rows[k][at].U++ }, func(m *api.Mean) { m.Rows[k][at].S += "x" })
		}
	}
	if !mean.Same(m, copyOf(m)) {
		t.Error(m)
	}
	for _, change := range changes {
		other := copyOf(m)
		change(&other)
		if mean.Same(m, other) || mean.Same(other, m) || !mean.Same(other, copyOf(other)) {
			t.Errorf("%v, %v", m, other)
		}
		if mean.May(m, other.Rows, api.OK) != (other.Fault || other.Over) {
			t.Errorf("%v, %v", m, other)
		}
	}
}
