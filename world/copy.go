package world

import (
	"bytes"
	"slices"

	"bowsprit/api"
)

// copied is a list of copies.
func copied[T any](l []T, copyOf func(T) T) []T {
	own := make([]T, len(l))
	copy(own, l)
	for k := range own {
		own[k] = copyOf(own[k])
	}
	return own
}

func copyOfRows(rows []api.Row) []api.Row {
	return copied(rows, slices.Clone[api.Row])
}

func copyOfBase(b api.Base) api.Base {
	b.Tables = copied(b.Tables, copyOfRows)
	return b
}

func copyOfTable(t api.Table) api.Table {
	t.Columns, t.Keys = slices.Clone(t.Columns), slices.Clone(t.Keys)
	return t
}

func copyOfBatch(b api.Batch) api.Batch {
	b.Rows = copyOfRows(b.Rows)
	return b
}

func copyOfHeld(h api.Held) api.Held {
	h.Batch = copyOfBatch(h.Batch)
	return h
}

func copyOfIn(in api.In) api.In {
	in.Receiver.Ahead = copied(in.Receiver.Ahead, copyOfHeld)
	in.Receiver.Buffer = copied(in.Receiver.Buffer, copyOfBatch)
	in.Rows = copyOfRows(in.Rows)
	return in
}

func copyOfOut(out api.Out) api.Out {
	out.Sender.Queue = copied(out.Sender.Queue, copyOfBatch)
	out.Rest = copyOfRows(out.Rest)
	return out
}

func copyOfExpr(x api.Expr) api.Expr {
	x.Nodes = slices.Clone(x.Nodes)
	return x
}

func copyOfAgg(a api.Agg) api.Agg {
	a.Arg = copyOfExpr(a.Arg)
	return a
}

func copyOfNode(n api.LNode) api.LNode {
	n.Kinds, n.Keys, n.Order = slices.Clone(n.Kinds), slices.Clone(n.Keys), slices.Clone(n.Order)
	n.Cond = copyOfExpr(n.Cond)
	n.Aggs = copied(n.Aggs, copyOfAgg)
	n.Items = copied(n.Items, copyOfExpr)
	return n
}

func copyOfFrag(f api.Frag) api.Frag {
	f.Nodes = copied(f.Nodes, copyOfNode)
	f.Cols = slices.Clone(f.Cols)
	return f
}

func copyOfTask(t api.Task) api.Task {
	t.Frag = copyOfFrag(t.Frag)
	t.Ins = copied(t.Ins, copyOfIn)
	t.Outs = copied(t.Outs, copyOfOut)
	t.Rows = copyOfRows(t.Rows)
	return t
}

func copyOfWorker(w api.Worker) api.Worker {
	w.Catalog.Tables = copied(w.Catalog.Tables, copyOfTable)
	w.Tables = copied(w.Tables, copyOfRows)
	w.Tasks = copied(w.Tasks, copyOfTask)
	return w
}

func copyOfEntry(x api.Entry) api.Entry {
	program, report := &x.Life.Program, &x.Life.Report
	program.Plan.Frags = copied(program.Plan.Frags, copyOfFrag)
	program.Names = slices.Clone(program.Names)
	report.Names = slices.Clone(report.Names)
	report.Rows = copyOfRows(report.Rows)
	return x
}

func copyOfParcel(p api.Parcel) api.Parcel {
	p.Bytes = bytes.Clone(p.Bytes)
	return p
}

// copyOf is a world that shares nothing with the one that it is of, whether that may be or not.
func copyOf(w api.World) api.World {
	w.Coord.Worker = copyOfWorker(w.Coord.Worker)
	w.Coord.Entries = copied(w.Coord.Entries, copyOfEntry)
	w.Workers = copied(w.Workers, copyOfWorker)
	w.Net.Parcels = copied(w.Net.Parcels, copyOfParcel)
	return w
}
