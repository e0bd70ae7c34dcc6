package script

import (
	"strconv"
	"strings"

	"bowsprit/api"
	"bowsprit/catalog"
	"bowsprit/value"
)

// The words of the lines ahead of the events, and of a transcript; what stands between each two parts of a line, and behind it.
const (
	wordTable = "table"
	wordNodes = "nodes"
	wordRow   = "row"
	wordQuery = "query"
	wordRuns  = "runs"
	blank     = " "
	lineFeed  = "\n"
)

// line is a line of parts.
func line(parts ...string) string {
	return strings.Join(parts, blank) + lineFeed
}

// lineOfRow is the line of a row that lies at a node. That may be: so each value has a literal.
func lineOfRow(node int, name string, r api.Row) string {
	parts := []string{wordRow, strconv.Itoa(node), name}
	for _, v := range r {
		literal, _ := value.Print(v)
		parts = append(parts, literal)
	}
	return line(parts...)
}

// lineOfEvent is the line of an event that may stand in a script.
func lineOfEvent(e api.Event) string {
	parts := []string{wordOf(e.Kind)}
	if e.Kind == api.EvSubmit {
		parts = append(parts, e.Text)
	}
	for _, n := range numbersOf(e) {
		parts = append(parts, strconv.FormatUint(n, 10))
	}
	return line(parts...)
}

// textOf is the lines of a script that may be.
func textOf(s api.Script) string {
	var text strings.Builder
	tables, _ := catalog.Print(s.Catalog)
	text.WriteString(tables)
	text.WriteString(line(wordNodes, strconv.Itoa(len(s.Layout.Parts))))
	for before, part := range s.Layout.Parts {
		for at, table := range part.Tables {
			for _, r := range table {
				text.WriteString(lineOfRow(before+1, s.Catalog.Tables[at].Name, r))
			}
		}
	}
	for _, e := range s.Events {
		text.WriteString(lineOfEvent(e))
	}
	return text.String()
}
