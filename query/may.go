package query

import (
	"slices"

	"bowsprit/api"
	"bowsprit/row"
)

// isEpoch tells whether there may be a query of that number.
func isEpoch(epoch int) bool {
	return 1 <= epoch && epoch <= api.MaxEpochs
}

// areRowsOf tells whether rows may be, each with a value for each of the names.
func areRowsOf(names []string, rows []api.Row) bool {
	isAstray := func(r api.Row) bool { return len(r) != len(names) || row.Check(r) != api.OK }
	return !slices.ContainsFunc(rows, isAstray)
}

// isStatic tells whether an error is one of compiling: each number is that no other report has.
func isStatic(e api.Errno) bool {
	return !slices.Contains([]api.Errno{api.OK, api.ErrFault, api.ErrOver, api.ErrCancel}, e)
}

func isReport(r api.Report) bool {
	switch {
	case r.At < 0 || r.At > 0 && !isStatic(r.Err):
		return false
	case r.Err == api.OK:
		return areRowsOf(r.Names, r.Rows)
	}
	return isBare(r)
}

// isBare tells whether a report has neither names nor rows.
func isBare(r api.Report) bool {
	return len(r.Names) == 0 && len(r.Rows) == 0
}

func isNoReport(r api.Report) bool {
	return r.Err == api.OK && r.At == 0 && isBare(r)
}

func isNoProgram(p api.Program) bool {
	return len(p.Plan.Frags) == 0 && len(p.Names) == 0
}

func isLife(l api.Life) bool {
	switch l.State {
	case api.LifeRuns:
		return isEpoch(l.Epoch) && len(l.Program.Plan.Frags) > 0 && isNoReport(l.Report)
	case api.LifeOver:
		return isEpoch(l.Epoch) && isNoProgram(l.Program) && isReport(l.Report)
	}
	return false
}
