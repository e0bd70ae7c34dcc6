package world_test

import (
	"strings"
	"testing"

	"bowsprit/api"
	"bowsprit/coord"
	"bowsprit/query"
	"bowsprit/worker"
)

// P29.2: EvSubmit: the coordinator has the query, nothing is sent; N is the epoch. Texts that compile run, others are reported at once.
func TestSubmit(t *testing.T) {
	for _, w := range worlds() {
		for _, text := range []string{ofU, ofBoth, unwise, faults, "", "SELECT", "select", long(api.MaxSource), long(api.MaxSource + 1), "SELECT c FROM u ?", "\x00", strings.Repeat("(", 600)} {
			c, epoch, e := coord.Submit(w.Coord, text)
			must(t, e)
			after := does(t, w, submit(text), of(w, func(w *api.World) { w.Coord = c }), len(w.Coord.Entries)+1)
			_, at, e := query.Compile(tables(), text)
			if e == api.OK {
				hasNoReport(t, after, epoch)
			} else {
				reports(t, after, epoch, failed(e, at))
			}
		}
	}
	w := does(t, plain(), submit(unwise), of(plain(), func(w *api.World) { w.Coord.Entries = []api.Entry{{Life: over(1, failed(api.ErrName, 4))}} }), 1)
	reports(t, w, 1, failed(api.ErrName, 4))
}

// P29.2: EvSubmit: one by one up to MaxEpochs; then ErrFull, whatever the text, also when all are over.
func TestSubmitToFull(t *testing.T) {
	w := plain()
	for n := range api.MaxEpochs {
		text := []string{ofU, unwise, ofBoth}[n%3]
		c, _, e := coord.Submit(w.Coord, text)
		must(t, e)
		w = does(t, w, submit(text), of(w, func(w *api.World) { w.Coord = c }), n+1)
	}
	denies(t, w, api.ErrFull, submit(ofU), submit(unwise), submit(""), submit(long(601)))
	w = rounds(t, w, 12)
	denies(t, w, api.ErrFull, submit(ofU), submit(unwise))
	for n := range api.MaxEpochs {
		if _, is := coord.Report(w.Coord, n+1); !is {
			t.Error(n, w.Coord)
		}
	}
}

// P29.2: EvCancel of each epoch: of one that runs, of one that is over, of none, of one beyond.
func TestCancel(t *testing.T) {
	for _, w := range worlds() {
		for _, epoch := range append(numbers(-2, api.MaxEpochs+3), far()...) {
			switch {
			case epoch < 1 || epoch > len(w.Coord.Entries):
				denies(t, w, api.ErrNone, cancel(epoch))
			case w.Coord.Entries[epoch-1].Life.State == api.LifeOver:
				denies(t, w, api.ErrReported, cancel(epoch))
			default:
				c, e := coord.Cancel(w.Coord, epoch)
				must(t, e)
				after := does(t, w, cancel(epoch), of(w, func(w *api.World) { w.Coord = c }), 0)
				reports(t, after, epoch, failed(api.ErrCancel, 0))
				denies(t, after, api.ErrReported, cancel(epoch))
			}
		}
	}
}

// P29.2: what was cancelled is told to be dropped at all nodes, though they had it, and stays cancelled.
func TestCancelIsTold(t *testing.T) {
	for before := range 8 {
		w := rounds(t, goes(t, plain(), submit(ofBoth)), before)
		if _, is := coord.Report(w.Coord, 1); is {
			denies(t, w, api.ErrReported, cancel(1))
			continue
		}
		w = rounds(t, goes(t, w, cancel(1)), 1)
		reports(t, w, 1, failed(api.ErrCancel, 0))
		for _, x := range w.Workers {
			if worker.Knows(x, 1) != 2 || len(x.Tasks) > 0 {
				t.Error(before, x)
			}
		}
		if !coord.Quiet(w.Coord) {
			t.Error(before, w.Coord)
		}
	}
}
