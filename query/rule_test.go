package query_test

import (
	"strconv"

	"bowsprit/api"
	"bowsprit/catalog"
	"bowsprit/lower"
	"bowsprit/plan"
	"bowsprit/rewrite"
)

// What the chapter says, reckoned apart from the program: what a text comes to is left to the layers below, but not which values may be, and how they are written.

// mayBe tells whether a value may be: what does not count of its Kind is zero.
func mayBe(v api.Value) bool {
	counts := []api.Value{{}, {Kind: 1, N: v.N}, {Kind: 2, N: v.N}, {Kind: 3, S: v.S}, {Kind: 4, N: v.N, U: v.U}}
	if v.Kind < 0 || v.Kind > 4 || v != counts[v.Kind] {
		return false
	}
	return len(v.S) <= 40 && (v.Kind != 1 || v.N == 0 || v.N == 1)
}

// fit tells whether rows may be, and each has so many values.
func fit(rows []api.Row, width int) bool {
	values := 0
	for _, r := range rows {
		for _, v := range r {
			if !mayBe(v) {
				return false
			}
			values++
		}
		if len(r) > 16 || values != width {
			return false
		}
		values = 0
	}
	return true
}

func isLifeByRule(l api.Life) bool {
	noProgram := same(l.Program, api.Program{})
	e, at := int(l.Report.Err), l.Report.At
	bare := same(api.Report{Err: l.Report.Err, At: at}, l.Report)
	if l.Epoch < 1 || l.Epoch > 12 {
		return false
	}
	switch {
	case l.State == 1:
		return len(l.Program.Plan.Frags) != 0 && same(l.Report, api.Report{})
	case l.State != 2 || !noProgram:
		return false
	case e == 0:
		return at == 0 && fit(l.Report.Rows, len(l.Report.Names))
	case e == int(api.ErrFault) || e == 300 || e == 371:
		return bare && at == 0
	}
	return bare && at >= 0
}

// endedByRule is what comes of a life that is to end: nothing, if it may not be, is over already, or what it is to end by is wrong.
func endedByRule(g given, right bool, r api.Report) answer {
	switch {
	case !isLifeByRule(g.Life):
		return answer{Err: 370}
	case g.Life.State == 2:
		return answer{Err: 372}
	case !right:
		return answer{Err: api.ErrArg}
	}
	return answer{Life: api.Life{Epoch: g.Life.Epoch, State: 2, Report: r}}
}

func compileByRule(g given) answer {
	asked, at, e := lower.Query(g.Catalog, g.Text)
	if e != api.OK {
		return answer{At: at, Err: e}
	}
	tree, e := rewrite.Rewrite(asked.Logic)
	if e != api.OK {
		return answer{Err: e}
	}
	p, e := plan.Plan(tree, g.Catalog)
	if e != api.OK {
		return answer{Err: e}
	}
	return answer{Program: api.Program{Plan: p, Names: asked.Names}}
}

func beginByRule(g given) answer {
	if e := catalog.Check(g.Catalog); e != api.OK {
		return answer{Err: e}
	}
	if g.Epoch < 1 || g.Epoch > 12 {
		return answer{Err: api.ErrArg}
	}
	a := compileByRule(g)
	if a.Err != api.OK {
		return answer{Life: api.Life{Epoch: g.Epoch, State: 2, Report: api.Report{Err: a.Err, At: a.At}}}
	}
	return answer{Life: api.Life{Epoch: g.Epoch, State: 1, Program: a.Program}}
}

// literal is how a value is written.
func literal(v api.Value) string {
	switch v.Kind {
	case 1:
		return []string{"FALSE", "TRUE"}[v.N]
	case 2:
		return strconv.FormatInt(v.N, 10)
	case 3:
		s := "'"
		for k := range len(v.S) {
			if v.S[k] == '\'' {
				s += "'"
			}
			s += v.S[k : k+1]
		}
		return s + "'"
	}
	return "NULL"
}

func textByRule(g given) answer {
	r := g.Life.Report
	switch {
	case !isLifeByRule(g.Life):
		return answer{Err: 370}
	case g.Life.State == 1:
		return answer{}
	case r.Err != api.OK:
		return answer{Text: "error " + strconv.Itoa(int(r.Err)) + " " + strconv.Itoa(r.At) + "\n"}
	}
	s := "ok " + strconv.Itoa(len(r.Rows)) + "\n"
	for _, values := range r.Rows {
		for k, v := range values {
			if v.Kind == 4 {
				return answer{Err: api.ErrArg}
			}
			if k > 0 {
				s += " "
			}
			s += literal(v)
		}
		s += "\n"
	}
	return answer{Text: s}
}

// rules are what calls answer by rule, in the order of calls.
func rules() []func(g given) answer {
	return []func(g given) answer{
		compileByRule,
		func(g given) answer {
			if isLifeByRule(g.Life) {
				return answer{}
			}
			return answer{Err: 370}
		},
		beginByRule,
		func(g given) answer {
			names := g.Life.Program.Names
			return endedByRule(g, fit(g.Rows, len(names)), api.Report{Names: names, Rows: g.Rows})
		},
		func(g given) answer {
			return endedByRule(g, g.Err == api.ErrFault || g.Err == 300, api.Report{Err: g.Err})
		},
		func(g given) answer { return endedByRule(g, true, api.Report{Err: 371}) },
		textByRule,
		func(g given) answer { return answer{Is: same(g.Life, g.Other)} },
	}
}
