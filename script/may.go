package script

import (
	"slices"

	"bowsprit/api"
	"bowsprit/place"
)

// isWritten tells whether a text has just bytes that are written.
func isWritten(s string) bool {
	for k := range len(s) {
		if s[k] < 32 || s[k] > 126 {
			return false
		}
	}
	return true
}

// areWritten tells whether all texts of a layout are.
func areWritten(l api.Layout) bool {
	isOdd := func(v api.Value) bool { return !isWritten(v.S) }
	for _, part := range l.Parts {
		for _, r := range slices.Concat(part.Tables...) {
			if slices.ContainsFunc(r, isOdd) {
				return false
			}
		}
	}
	return true
}

// isEvent tells whether an event may stand in a script. What does not count of it is zero, if it is the one that its numbers and its text make.
func isEvent(e api.Event) bool {
	l := numbersOf(e)
	isKind := wordOf(e.Kind) != "" && areNumbers(e.Kind, l)
	return isKind && eventOf(e.Kind, e.Text, l) == e && len(e.Text) <= api.MaxSource+1 && isWritten(e.Text)
}

// isScript tells whether a script may be; of what place lets be the catalog may be.
func isScript(s api.Script) bool {
	isNone := func(e api.Event) bool { return !isEvent(e) }
	return len(s.Events) <= api.MaxPlayed && place.Check(s.Catalog, s.Layout) == api.OK && areWritten(s.Layout) && !slices.ContainsFunc(s.Events, isNone)
}
