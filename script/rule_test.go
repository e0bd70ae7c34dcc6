package script_test

import (
	"fmt"
	"math/big"
	"reflect"
	"regexp"
	"slices"
	"strconv"
	"strings"

	"bowsprit/api"
	"bowsprit/catalog"
	"bowsprit/place"
	"bowsprit/world"
)

// What the chapter says, reckoned apart from the program: what the layers below say of their own things is left to them. A text is gone over line by line; a line is right, if what stands up to its end is just what is written of the script that is read from it.

// counting are the fields that count of each Kind, in the order of its line, and the greatest number of each.
func counting(kind int) (fields []string, most []int64) {
	const far, num = 1<<31 - 1, 1<<40 + 1
	switch kind {
	case 2:
		return []string{"Epoch"}, []int64{far}
	case 3:
		return []string{"Node"}, []int64{far}
	case 4, 5, 7:
		return []string{"Num"}, []int64{num}
	case 6:
		return []string{"Node", "To"}, []int64{far, far}
	case 8:
		return []string{"Num", "At", "By"}, []int64{num, far, 255}
	case 9:
		return []string{"At"}, []int64{100}
	}
	return nil, nil
}

// words are those of the Kinds.
func words() map[string]int {
	return map[string]int{"submit": 1, "cancel": 2, "tick": 3, "come": 4, "lose": 5, "drop": 6, "twin": 7, "spoil": 8, "rounds": 9}
}

func areBytes(s string) bool {
	return !strings.ContainsFunc(s, func(c rune) bool { return c < ' ' || c > '~' })
}

// fieldOf is a number that an event has, of whichever type it is.
func fieldOf(e api.Event, name string) *big.Int {
	switch v := reflect.ValueOf(e).FieldByName(name); {
	case v.CanInt():
		return big.NewInt(v.Int())
	default:
		return new(big.Int).SetUint64(v.Uint())
	}
}

func isEventByRule(e api.Event) bool {
	if e.Kind < 1 || e.Kind > 9 || len(e.Text) > 601 || !areBytes(e.Text) || e.Text != "" && e.Kind != 1 {
		return false
	}
	fields, most := counting(e.Kind)
	for _, name := range []string{"Epoch", "Node", "To", "At", "Num", "By"} {
		limit := int64(0)
		if k := slices.Index(fields, name); k >= 0 {
			limit = most[k]
		}
		if n := fieldOf(e, name); n.Sign() < 0 || n.Cmp(big.NewInt(limit)) > 0 {
			return false
		}
	}
	return true
}

func checkByRule(s api.Script) api.Errno {
	if place.Check(s.Catalog, s.Layout) != api.OK || len(s.Events) > 400 {
		return 400
	}
	for _, part := range s.Layout.Parts {
		for _, r := range slices.Concat(part.Tables...) {
			for _, v := range r {
				if !areBytes(v.S) {
					return 400
				}
			}
		}
	}
	for _, e := range s.Events {
		if !isEventByRule(e) {
			return 400
		}
	}
	return api.OK
}

// literal is how a value is written.
func literal(v api.Value) string {
	switch v.Kind {
	case kn:
		return "NULL"
	case kb:
		return []string{"FALSE", "TRUE"}[v.N]
	case ki:
		return fmt.Sprint(v.N)
	}
	return "'" + strings.ReplaceAll(v.S, "'", "''") + "'"
}

// writtenByRule are the lines of a script that may be.
func writtenByRule(s api.Script) string {
	var text strings.Builder
	for _, t := range s.Catalog.Tables {
		fmt.Fprint(&text, "table ", t.Name)
		for _, c := range t.Columns {
			fmt.Fprint(&text, " ", c.Name, " ", map[int]string{kb: "bool", ki: "int", kt: "text"}[c.Kind])
		}
		for k, key := range t.Keys {
			fmt.Fprint(&text, map[bool]string{true: " by "}[k == 0], map[bool]string{true: " "}[k > 0], t.Columns[key].Name)
		}
		fmt.Fprintln(&text)
	}
	fmt.Fprintf(&text, "nodes %d\n", len(s.Layout.Parts))
	for k, part := range s.Layout.Parts {
		for table, rows := range part.Tables {
			for _, r := range rows {
				fmt.Fprintf(&text, "row %d %s", k+1, s.Catalog.Tables[table].Name)
				for _, v := range r {
					fmt.Fprint(&text, " ", literal(v))
				}
				fmt.Fprintln(&text)
			}
		}
	}
	for _, e := range s.Events {
		for word, kind := range words() {
			if kind == e.Kind {
				fmt.Fprint(&text, word)
			}
		}
		if e.Kind == 1 {
			fmt.Fprint(&text, " ", e.Text)
		}
		fields, _ := counting(e.Kind)
		for _, name := range fields {
			fmt.Fprint(&text, " ", fieldOf(e, name))
		}
		fmt.Fprintln(&text)
	}
	return text.String()
}

func printByRule(g given) answer {
	if checkByRule(g.Script) != api.OK {
		return answer{Err: 400}
	}
	text := writtenByRule(g.Script)
	if len(text) > 131072 {
		return answer{Err: api.ErrLong}
	}
	return answer{Text: text}
}

// rowByRule is what a line of a row says.
func rowByRule(s *api.Script, line string) bool {
	l := regexp.MustCompile(`^row ([0-9]+) ([^ ]*)((?: [^ ']+| '(?:[^']|'')*')*)$`).FindStringSubmatch(line)
	if l == nil {
		return false
	}
	node, e := strconv.Atoi(l[1])
	table := slices.IndexFunc(s.Catalog.Tables, func(t api.Table) bool { return t.Name == l[2] })
	if e != nil || node < 1 || node > len(s.Layout.Parts) || table < 0 {
		return false
	}
	r := api.Row{}
	for _, word := range regexp.MustCompile(` ([^ ']+|'(?:[^']|'')*')`).FindAllStringSubmatch(l[3], -1) {
		n, e := strconv.ParseInt(word[1], 10, 64)
		switch word := word[1]; {
		case word[0] == '\'':
			r = append(r, text(strings.ReplaceAll(word[1:len(word)-1], "''", "'")))
		case slices.Contains([]string{"NULL", "FALSE", "TRUE"}, word):
			r = append(r, written(word))
		case e == nil:
			r = append(r, number(n))
		default:
			return false
		}
	}
	own := s.Layout.Parts[node-1].Tables
	own[table] = append(own[table], r)
	return true
}

// eventByRule is what a line of an event says.
func eventByRule(s *api.Script, line string) bool {
	l := strings.Split(line, " ")
	e := api.Event{Kind: words()[l[0]]}
	fields, most := counting(e.Kind)
	switch {
	case e.Kind == 1 && len(l) > 1:
		e.Text = line[len("submit "):]
	case e.Kind < 2 || len(l) != 1+len(fields):
		return false
	}
	for k, name := range fields {
		n, is := new(big.Int).SetString(l[k+1], 10)
		if !is || n.Sign() < 0 || n.Cmp(big.NewInt(most[k])) > 0 {
			return false
		}
		switch v := reflect.ValueOf(&e).Elem().FieldByName(name); {
		case v.CanInt():
			v.SetInt(n.Int64())
		default:
			v.SetUint(n.Uint64())
		}
	}
	s.Events = append(s.Events, e)
	return true
}

// goesOnByRule is what a line says, whether it may stand there or not; it is written again to tell that.
func goesOnByRule(s *api.Script, line string) bool {
	if n, is := strings.CutPrefix(line, "nodes "); is && len(s.Layout.Parts) == 0 {
		count, e := strconv.Atoi(n)
		if e != nil || count < 1 || count > 8 {
			return false
		}
		for range count {
			s.Layout.Parts = append(s.Layout.Parts, api.Base{Tables: make([][]api.Row, len(s.Catalog.Tables))})
		}
		return true
	}
	if len(s.Layout.Parts) == 0 {
		c, _, e := catalog.Parse(writtenByRule(*s)[:len(writtenByRule(*s))-len("nodes 0\n")] + line + "\n")
		s.Catalog = c
		return e == api.OK
	}
	if strings.HasPrefix(line, "row ") {
		return rowByRule(s, line)
	}
	return eventByRule(s, line)
}

// standsByRule tells whether what was read of a text is just what stands up to some place. Of the events just the last one is asked for: those ahead of it were, and nothing hangs on them but how many they are.
func standsByRule(s api.Script, up string) bool {
	isLaid, count := len(s.Layout.Parts) > 0, len(s.Events)
	if count > 400 {
		return false
	}
	if !isLaid {
		s.Layout.Parts = []api.Base{{Tables: make([][]api.Row, len(s.Catalog.Tables))}}
		up += "nodes 1\n"
	}
	if count > 1 {
		l := strings.SplitAfter(up, "\n") // behind the last line feed there is nothing
		up = strings.Join(l[:len(l)-1-count], "") + l[len(l)-2]
		s.Events = s.Events[count-1:]
	}
	return checkByRule(s) == api.OK && writtenByRule(s) == up
}

func parseByRule(g given) answer {
	if len(g.Text) > 131072 {
		return answer{Err: api.ErrLong}
	}
	s, at := api.Script{}, 0
	for at < len(g.Text) {
		line, _, ended := strings.Cut(g.Text[at:], "\n")
		if !ended || !goesOnByRule(&s, line) || !standsByRule(s, g.Text[:at+len(line)+1]) {
			return answer{At: at, Err: 400}
		}
		at += len(line) + 1
	}
	if len(s.Layout.Parts) == 0 {
		return answer{At: at, Err: 400}
	}
	return answer{Script: s}
}

// reportByRule is how a report is written.
func reportByRule(r api.Report) string {
	if r.Err != api.OK {
		return fmt.Sprintf("error %d %d\n", r.Err, r.At)
	}
	text := fmt.Sprintf("ok %d\n", len(r.Rows))
	for _, values := range r.Rows {
		var l []string
		for _, v := range values {
			l = append(l, literal(v))
		}
		text += strings.Join(l, " ") + "\n"
	}
	return text
}

// befallsByRule is what becomes of a world by an event of a script.
func befallsByRule(w api.World, e api.Event) (api.World, api.Reply) {
	if e.Kind != 9 {
		return world.Do(w, e)
	}
	for range e.At {
		after, _ := world.Rounds(w, 1)
		if same(after, w) {
			break // so it is behind all others, too
		}
		w = after
	}
	return w, api.Reply{}
}

func playByRule(g given) answer {
	if checkByRule(g.Script) != api.OK {
		return answer{Err: 400}
	}
	w, _ := world.New(g.Script.Catalog, g.Script.Layout)
	var text strings.Builder
	for _, e := range g.Script.Events {
		after, r := befallsByRule(w, e)
		fmt.Fprintln(&text, int(r.Err), r.N, len(after.Net.Parcels))
		w = after
	}
	for k, x := range w.Coord.Entries {
		fmt.Fprintf(&text, "query %d\n", k+1)
		if x.Life.State == api.LifeRuns {
			fmt.Fprintln(&text, "runs")
		} else {
			fmt.Fprint(&text, reportByRule(x.Life.Report))
		}
	}
	return answer{Text: text.String()}
}

// rules are what calls answer by rule, in the order of calls.
func rules() []func(g given) answer {
	return []func(g given) answer{
		func(g given) answer { return answer{Err: checkByRule(g.Script)} },
		printByRule, parseByRule, playByRule,
		func(g given) answer {
			read := parseByRule(g)
			if read.Err != api.OK {
				return read
			}
			return playByRule(given{Script: read.Script})
		},
		func(g given) answer { return answer{Is: same(g.Script, g.Other)} },
	}
}
