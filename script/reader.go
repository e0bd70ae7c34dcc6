package script

import (
	"strconv"
	"strings"

	"bowsprit/api"
	"bowsprit/catalog"
	"bowsprit/place"
	"bowsprit/value"
)

// reader is a script, as far as its lines were taken: all that was taken may be, and stands where it may.
type reader struct {
	api.Script
	node, table int // where the last row lies
}

// isLaid tells whether the line of nodes was taken.
func (r *reader) isLaid() bool {
	return len(r.Layout.Parts) > 0
}

// takes tells whether a line, without its line feed, is one that may stand behind those that were taken; it is taken then.
func (r *reader) takes(line string) bool {
	word, rest, _ := strings.Cut(line, blank)
	is := func(w string, inPlace bool) bool { return word == w && inPlace }
	switch {
	case !isWritten(line):
		return false
	case is(wordTable, !r.isLaid()):
		return r.takesTable(line + lineFeed)
	case is(wordNodes, !r.isLaid()):
		return r.takesNodes(rest)
	case is(wordRow, r.isLaid() && len(r.Events) == 0):
		return r.takesRow(parted(rest))
	}
	return r.isLaid() && r.takesEvent(line)
}

// takesTable leaves it to catalog what a line of it is, and which table may stand behind the others.
func (r *reader) takesTable(line string) bool {
	one, _, e := catalog.Parse(line)
	if e != api.OK {
		return false
	}
	all, e := catalog.Add(r.Catalog, one.Tables[0])
	r.Catalog = all
	return e == api.OK
}

func (r *reader) takesNodes(count string) bool {
	n, is := numberOf(count)
	if !is || n < 1 || n > api.MaxSites {
		return false
	}
	r.Layout.Parts = make([]api.Base, n)
	for k := range r.Layout.Parts {
		r.Layout.Parts[k].Tables = make([][]api.Row, len(r.Catalog.Tables))
	}
	return true
}

// takesRow leaves it to place which rows may lie there.
func (r *reader) takesRow(parts []string) bool {
	if len(parts) < 2 {
		return false
	}
	node, is := numberOf(parts[0])
	table, isThere := catalog.Find(r.Catalog, parts[1])
	own, areLiterals := rowOf(parts[2:])
	if !is || !isThere || !areLiterals || node < 1 || node > uint64(len(r.Layout.Parts)) || !r.goesOn(int(node), table) {
		return false
	}
	tables := r.Layout.Parts[node-1].Tables
	tables[table] = append(tables[table], own)
	return place.Check(r.Catalog, r.Layout) == api.OK
}

// goesOn tells whether a row may lie there behind the last one; then that is where the last one lies.
func (r *reader) goesOn(node, table int) bool {
	if node < r.node || node == r.node && table < r.table {
		return false
	}
	r.node, r.table = node, table
	return true
}

func (r *reader) takesEvent(line string) bool {
	e, is := eventOfLine(line)
	r.Events = append(r.Events, e)
	return is && len(r.Events) <= api.MaxPlayed
}

// eventOfLine is the event that a line says; false, if it says none that may stand in a script. But for submit there is a number at least: what is no word of a Kind has none.
func eventOfLine(line string) (api.Event, bool) {
	word, rest, isParted := strings.Cut(line, blank)
	kind := kindOf(word)
	if kind == api.EvSubmit {
		e := api.Event{Kind: kind, Text: rest}
		return e, isParted && isEvent(e)
	}
	l, are := numbersIn(rest)
	if !are || !areNumbers(kind, l) {
		return api.Event{}, false
	}
	return eventOf(kind, "", l), true
}

// numbersIn are the numbers that the parts of a line say; false, if one of these is none.
func numbersIn(line string) ([]uint64, bool) {
	var l []uint64
	for _, part := range strings.Split(line, blank) {
		n, is := numberOf(part)
		if !is {
			return nil, false
		}
		l = append(l, n)
	}
	return l, true
}

// numberOf is the number that a part of a line says; false, if it is none, or greater than any may be.
func numberOf(part string) (uint64, bool) {
	n, e := strconv.ParseUint(part, 10, 64)
	return n, e == nil && strconv.FormatUint(n, 10) == part
}

// parted are a line's parts. A blank within a text parts nothing: ahead of it there is an odd number of quotes, for those that a text has are doubled.
func parted(line string) []string {
	var parts []string
	from, inText := 0, false
	for k := range len(line) {
		switch {
		case line[k] == '\'':
			inText = !inText
		case line[k] == ' ' && !inText:
			parts = append(parts, line[from:k])
			from = k + 1
		}
	}
	return append(parts, line[from:])
}

// rowOf is the row of these literals; false, if one of them is none.
func rowOf(literals []string) (api.Row, bool) {
	r := make(api.Row, len(literals))
	for k, s := range literals {
		v, e := value.Parse(s)
		if e != api.OK {
			return nil, false
		}
		r[k] = v
	}
	return r, true
}
