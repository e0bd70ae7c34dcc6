package query

import (
	"slices"

	"bowsprit/api"
)

// end is what ends a life: which report a program comes to by it, or why to none.
type end struct {
	report func(p api.Program) (api.Report, api.Errno)
}

// over is the life of an epoch that has its report.
func over(epoch int, r api.Report) api.Life {
	return api.Life{Epoch: epoch, State: api.LifeOver, Report: r}
}

// ended is a life behind its end. No end is asked for anything, unless the life runs: so there is one report at most.
func ended(l api.Life, by end) (api.Life, api.Errno) {
	switch {
	case !isLife(l):
		return api.Life{}, api.ErrLife
	case l.State == api.LifeOver:
		return api.Life{}, api.ErrReported
	}
	r, e := by.report(l.Program)
	if e != api.OK {
		return api.Life{}, e
	}
	return over(l.Epoch, r), api.OK
}

// byRows ends a life with rows.
func byRows(rows []api.Row) end {
	return end{report: func(p api.Program) (api.Report, api.Errno) {
		if !areRowsOf(p.Names, rows) {
			return api.Report{}, api.ErrArg
		}
		return api.Report{Names: slices.Clone(p.Names), Rows: copyOfRows(rows)}, api.OK
	}}
}

// byFailure ends a life with why no rows came of it.
func byFailure(why api.Errno) end {
	return end{report: func(api.Program) (api.Report, api.Errno) {
		if why != api.ErrFault && why != api.ErrOver {
			return api.Report{}, api.ErrArg
		}
		return api.Report{Err: why}, api.OK
	}}
}

// byCancel ends a life because nobody wants its rows any more.
func byCancel() end {
	return end{report: func(api.Program) (api.Report, api.Errno) {
		return api.Report{Err: api.ErrCancel}, api.OK
	}}
}

// copyOfRows are rows that share nothing with those that they are of.
func copyOfRows(rows []api.Row) []api.Row {
	own := make([]api.Row, len(rows))
	copy(own, rows)
	for k, r := range own {
		own[k] = slices.Clone(r)
	}
	return own
}
