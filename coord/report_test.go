package coord_test

import (
	"slices"
	"testing"

	"bowsprit/api"
)

// P28.5: the reports of queries that are over, of each end; none of those that run.
func TestReport(t *testing.T) {
	for k, x := range full().Entries {
		if slices.Contains(fullRuns, k+1) {
			hasNoReport(t, full(), k+1)
		} else {
			reports(t, full(), k+1, x.Life.Report)
		}
	}
	reports(t, full(), 3, came(list("1 / 2"), "c"))
	for _, r := range []api.Report{{}, came(nil, "a", ""), came([]api.Row{{}, {}}), came(list("1 'a' / NULL S5"), "a", "a"), failed(api.ErrLex, 599), failed(api.ErrParse, 0), failed(api.ErrCancel, 0), failed(-1, 7)} {
		c := laid(nil, entry(over(1, r), nil, nil))
		reports(t, c, 1, r)
		hasNoReport(t, c, 2)
	}
}

// P28.5: of no epoch, and of one beyond the entries, there is nothing.
func TestReportOfNone(t *testing.T) {
	for count := range api.MaxEpochs + 1 {
		for _, epoch := range append(numbers(-3, 40), far()...) {
			switch {
			case epoch < 1 || epoch > count || epoch%4 == 1:
				hasNoReport(t, filled(count), epoch)
			default:
				reports(t, filled(count), epoch, failed([]api.Errno{api.ErrCancel, api.ErrName, api.ErrOver}[(epoch-2)%4], 0))
			}
		}
	}
}

// P28.5: quiet: of no query, of all over and gone at all nodes, of such as nobody was told of; not of one that runs, whoever has it, nor of one of which Gone lacks one node.
func TestQuiet(t *testing.T) {
	isQuiet(t, true, plain())
	isQuiet(t, false, full())
	all := []int{1, 2, 3}
	quiet := func(epoch int) []api.Entry {
		return []api.Entry{entry(over(epoch, failed(api.ErrName, 4)), nil, nil), entry(over(epoch, failed(api.ErrOver, 0)), nil, nil), entry(over(epoch, failed(api.ErrCancel, 0)), nil, all), entry(over(epoch, came(nil)), all, all), entry(over(epoch, failed(api.ErrFault, 0)), []int{2}, all)}
	}
	loud := func(epoch int) []api.Entry {
		return []api.Entry{entry(runs(epoch, small()), nil, nil), entry(runs(epoch, small()), all, nil), entry(over(epoch, failed(api.ErrCancel, 0)), nil, nil), entry(over(epoch, failed(api.ErrCancel, 0)), all, []int{1, 2}), entry(over(epoch, came(nil)), nil, []int{2, 3}), entry(over(epoch, came(nil)), nil, []int{1, 3})}
	}
	for a := range quiet(1) {
		isQuiet(t, true, laid(nil, quiet(1)[a]))
		for b := range quiet(2) {
			isQuiet(t, true, laid(nil, quiet(1)[a], quiet(2)[b]))
			isQuiet(t, true, laid(nil, quiet(1)[a], quiet(2)[b], quiet(3)[a]))
		}
		for b := range loud(2) {
			isQuiet(t, false, laid(nil, loud(1)[b]))
			isQuiet(t, false, laid(nil, quiet(1)[a], loud(2)[b]))
			isQuiet(t, false, laid(nil, loud(1)[b], quiet(2)[a]))
			isQuiet(t, false, laid(nil, loud(1)[b], quiet(2)[a], loud(3)[(b+1)%6]))
		}
	}
	c := laid(nil, entry(over(1, failed(api.ErrName, 0)), nil, nil)) // told all the same: it waits for all nodes
	c.Worker.Gone = setOf(1)
	isQuiet(t, false, c)
	c.Entries[0].Gone = setOf(1, 2, 3)
	isQuiet(t, true, c)
}

// P28.5: quiet hangs on how many nodes there are.
func TestQuietOfNodes(t *testing.T) {
	for nodes := 1; nodes <= api.MaxSites; nodes++ {
		for last := range nodes + 1 {
			c := api.Coord{Worker: api.Worker{Sites: nodes, Gone: setOf(1)}, Entries: []api.Entry{entry(over(1, came(nil)), nil, numbers(1, last))}}
			isQuiet(t, last == nodes, c)
			c.Entries[0].Gone = setOf(numbers(1, nodes)...) &^ setOf(last)
			isQuiet(t, last == 0, c)
		}
	}
}

// P28.5: of coordinators that may not be: nothing, false, whatever they have.
func TestAskedOfNone(t *testing.T) {
	for _, c := range noCoords() {
		isCoord(t, false, c)
		isQuiet(t, false, c)
		for epoch := -1; epoch <= len(c.Entries)+1; epoch++ {
			hasNoReport(t, c, epoch)
		}
	}
}
