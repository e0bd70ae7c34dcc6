package script

import (
	"strconv"
	"strings"

	"bowsprit/api"
	"bowsprit/query"
	"bowsprit/world"
)

// happens is what becomes of a world by an event that may stand in a script. So few rounds are never refused.
func happens(w api.World, e api.Event) (api.World, api.Reply) {
	if e.Kind != api.EvRounds {
		return world.Do(w, e)
	}
	w, _ = world.Rounds(w, e.At)
	return w, api.Reply{}
}

// lineOfReply is the line of what an event answered, behind which a world stands so.
func lineOfReply(r api.Reply, w api.World) string {
	return line(strconv.Itoa(int(r.Err)), strconv.Itoa(r.N), strconv.Itoa(len(w.Net.Parcels)))
}

// linesOfLife are those of a query.
func linesOfLife(l api.Life) string {
	head := line(wordQuery, strconv.Itoa(l.Epoch))
	if l.State == api.LifeRuns {
		return head + line(wordRuns)
	}
	report, _ := query.Text(l)
	return head + report
}

// transcript is that of a script that may be: so there is a world of it.
func transcript(s api.Script) string {
	var text strings.Builder
	w, _ := world.New(s.Catalog, s.Layout)
	for _, e := range s.Events {
		after, r := happens(w, e)
		text.WriteString(lineOfReply(r, after))
		w = after
	}
	for _, x := range w.Coord.Entries {
		text.WriteString(linesOfLife(x.Life))
	}
	return text.String()
}
