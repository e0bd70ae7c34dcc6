package query

import (
	"strconv"
	"strings"

	"bowsprit/api"
	"bowsprit/value"
)

// page is a text that is laid line by line.
type page struct {
	strings.Builder
}

// line lays a line of parts, with a blank between each two.
func (p *page) line(parts ...string) {
	p.WriteString(strings.Join(parts, " "))
	p.WriteByte('\n')
}

// literals are a row's values as they are written; value.Print's error, if one is not.
func literals(r api.Row) ([]string, api.Errno) {
	var parts []string
	for _, v := range r {
		part, e := value.Print(v)
		if e != api.OK {
			return nil, e
		}
		parts = append(parts, part)
	}
	return parts, api.OK
}

// textOf is how a report that may be is written.
func textOf(r api.Report) (string, api.Errno) {
	var p page
	if r.Err != api.OK {
		p.line("error", strconv.Itoa(int(r.Err)), strconv.Itoa(r.At))
		return p.String(), api.OK
	}
	p.line("ok", strconv.Itoa(len(r.Rows)))
	for _, values := range r.Rows {
		parts, e := literals(values)
		if e != api.OK {
			return "", e
		}
		p.line(parts...)
	}
	return p.String(), api.OK
}
