package denote

import (
	"slices"

	"bowsprit/api"
	"bowsprit/arith"
	"bowsprit/expr"
	"bowsprit/row"
	"bowsprit/value"
)

func mayNotBe(r api.Row) bool {
	return row.Check(r) != api.OK
}

// isList tells whether rows are a list of layer 5.
func isList(rows []api.Row) bool {
	return len(rows) <= api.MaxList && !slices.ContainsFunc(rows, mayNotBe)
}

func isAgg(a api.Agg) bool {
	switch a.Tag {
	case api.AggAll:
		return len(a.Arg.Nodes) == 0
	case api.AggCount, api.AggSum, api.AggMin, api.AggMax:
		return expr.Check(a.Arg) == api.OK
	}
	return false
}

// asked is what an aggregate's Arg comes to of rows, null left out. That one row faults is told at last, for another one behind it may be such as can't be asked, and that goes ahead.
func asked(a api.Agg, rows []api.Row) ([]api.Value, api.Errno) {
	var values []api.Value
	said := api.OK
	for _, r := range rows {
		v, e := expr.Eval(a.Arg, r)
		switch {
		case e == api.ErrFault:
			said = e
		case e != api.OK, a.Tag == api.AggSum && !isOf(api.VInt, v):
			return nil, api.ErrArg
		case v != value.Null():
			values = append(values, v)
		}
	}
	return values, said
}

// Aggregate: P15.3.
func Aggregate(a api.Agg, rows []api.Row) (api.Value, api.Errno) {
	if !isList(rows) || !isAgg(a) {
		return api.Value{}, api.ErrArg
	}
	if a.Tag == api.AggAll {
		return value.Int(int64(len(rows))), api.OK
	}
	values, e := asked(a, rows)
	switch {
	case e != api.OK:
		return api.Value{}, e
	case a.Tag == api.AggCount:
		return value.Int(int64(len(values))), api.OK
	case a.Tag == api.AggSum:
		return arith.All(values)
	case len(values) == 0:
		return value.Null(), api.OK
	case a.Tag == api.AggMin:
		return slices.MinFunc(values, value.Compare), api.OK
	}
	return slices.MaxFunc(values, value.Compare), api.OK
}
