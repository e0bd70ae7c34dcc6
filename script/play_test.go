package script_test

import (
	"slices"
	"strings"
	"testing"

	"bowsprit/api"
	"bowsprit/script"
)

// small is how the text of a script begins that has one table at two nodes.
func small(l ...string) string {
	return lines(append([]string{"table u c int", "nodes 2", "row 1 u 5", "row 2 u 9"}, l...)...)
}

// P30.3: an event of each Kind, and what it replies: errors, numbers, and how many parcels are on their way behind it.
func TestPlayReplies(t *testing.T) {
	plays(t, small("submit SELECT c FROM u", "tick 0", "come 1", "come 3", "come 3", "lose 3", "lose 4", "twin 2", "twin 9", "spoil 5 0 1", "spoil 5 0 1", "spoil 2 9999 1", "spoil 2 0 0", "spoil 4 0 1", "drop 0 1", "drop 0 2", "drop 1 0", "drop 1 1", "drop 9 0", "tick 3", "tick 1", "cancel 1", "cancel 1", "cancel 2", "rounds 0", "rounds 1", "rounds 100"),
		"0 1 0", // submit: of the epoch 1
		"0 0 4", // tick: of two streams how much room there is, and two plans
		"0 0 3", // come: the node 1 knows nothing of that stream yet
		"0 0 3", // come: the plan; the node 1 says that it has it
		"4 0 3", // come: it came already
		"4 0 3", // lose: it came already
		"0 0 2", // lose: the plan of the node 2
		"0 6 3", // twin: of the Num 6
		"4 0 3", // twin: there is none
		"0 0 3", // spoil
		"5 0 3", // spoil: it is spoiled
		"2 0 3", // spoil: no such byte
		"2 0 3", // spoil: by nothing
		"4 0 3", // spoil: there is none
		"0 0 3", // drop: none from 0 to 1
		"0 2 1", // drop: two from 0 to 2
		"0 1 0", // drop: the one from 1 to 0
		"2 0 0", // drop: from 1 to itself
		"2 0 0", // drop: no such node
		"2 0 0", // tick: no such node
		"0 0 0", // tick: the node 1 has nothing to say yet
		"0 0 0", // cancel
		"372 0 0", "4 0 0", "0 0 0", "0 0 0", "0 0 0",
		"query 1", "error 371 0")
}

// P30.3: queries that run, that are over by rows, by none, by an error of the text, by a fault, by too much, cancelled.
func TestPlayReports(t *testing.T) {
	wide := "submit SELECT p.c FROM u p JOIN u q ON TRUE JOIN u r ON TRUE"
	l := small(slices.Repeat([]string{"row 2 u NULL"}, 10)...)
	l += lines("submit SELECT c FROM u WHERE c > 0", "rounds 1", "submit SELECT 1 / (c - 9) FROM u", "submit SELECT zz FROM u", "submit ", "submit SELECT c FROM u WHERE c > 99", wide, "submit SELECT COUNT(*) FROM u", "rounds 3", "cancel 7", "cancel 1", "submit SELECT c, c = 9, 'it''s' FROM u WHERE c > 0", "submit SELECT COUNT(*) FROM u", "rounds 40", "submit "+long(601), "submit SELECT c FROM u", "rounds 0")
	plays(t, l, "0 1 0", "0 0 0", "0 2 0", "0 3 0", "0 4 0", "0 5 0", "0 6 0", "0 7 0", "0 0 0", "0 0 0", "372 0 0", "0 8 0", "0 9 0", "0 0 0", "0 10 0", "0 11 0", "0 0 0",
		"query 1", "ok 2", "5", "9",
		"query 2", "error 140 0",
		"query 3", "error 222 4",
		"query 4", "error 190 0",
		"query 5", "ok 0",
		"query 6", "error 300 0",
		"query 7", "error 371 0",
		"query 8", "ok 2", "5 FALSE 'it''s'", "9 TRUE 'it''s'",
		"query 9", "ok 1", "12",
		"query 10", "error 3 0",
		"query 11", "runs")
}

// P30.3: a query is told as it stands at the end, event by event: it runs; it is over, and stays so.
func TestPlayAsItStands(t *testing.T) {
	l := []string{"submit SELECT c FROM u", "cancel 2", "tick 0", "tick 1", "rounds 1", "rounds 9", "cancel 1", "rounds 1"}
	replies := []string{"0 1 0", "4 0 0", "0 0 4", "0 0 4", "0 0 0", "0 0 0", "0 0 0", "0 0 0"}
	for n := range len(l) + 1 {
		want := slices.Clone(replies[:n])
		switch {
		case n > 0 && n < 6:
			want = append(want, "query 1", "runs")
		case n >= 6:
			want = append(want, "query 1", "ok 2", "5", "9")
		}
		if n >= 7 {
			want[6] = "372 0 0"
		}
		plays(t, small(l[:n]...), want...)
	}
	plays(t, small("submit SELECT c FROM u", "cancel 1", "rounds 9", "cancel 1"), "0 1 0", "0 0 0", "0 0 0", "372 0 0", "query 1", "error 371 0")
}

// P30.3: no event: nothing is told; as many events as there may be: a line of each.
func TestPlayCount(t *testing.T) {
	plays(t, small())
	plays(t, "nodes 1\n")
	plays(t, head())
	plays(t, small(slices.Repeat([]string{"cancel 1"}, api.MaxPlayed)...), slices.Repeat([]string{"4 0 0"}, api.MaxPlayed)...)
}

// P30.3: as many queries as there may be, and one more: ErrFull. They are told by epochs, also those behind the ninth one.
func TestPlayFull(t *testing.T) {
	var l, want, told []string
	for k := range api.MaxEpochs {
		n := string("0123456789ab"[k])
		l, want = append(l, "submit SELECT c, '"+n+"' FROM u"), append(want, "0 "+[]string{"1", "2", "3", "4", "5", "6", "7", "8", "9", "10", "11", "12"}[k]+" 0")
		told = append(told, "query "+want[k][2:len(want[k])-2], "ok 2", "5 '"+n+"'", "9 '"+n+"'")
	}
	l, want = append(l, "submit SELECT c FROM u", "submit ", "rounds 20", "submit x"), append(want, "6 0 0", "6 0 0", "0 0 0", "6 0 0")
	plays(t, small(l...), append(want, told...)...)
}

// P30.3: of EvRounds: 0, 1, and as many as there may be; each is as many of one.
func TestPlayRounds(t *testing.T) {
	begun := []string{"submit SELECT c FROM u", "tick 0", "tick 0", "spoil 1 0 1", "lose 3"}
	first := []string{"0 1 0", "0 0 4", "0 0 8", "0 0 8", "0 0 7"}
	runs, over := []string{"query 1", "runs"}, []string{"query 1", "ok 2", "5", "9"}
	for _, x := range []struct {
		line, reply string
		told        []string
	}{{"rounds 0", "0 0 7", runs}, {"rounds 1", "0 0 0", runs}, {"rounds 9", "0 0 0", over}, {"rounds 99", "0 0 0", over}, {"rounds 100", "0 0 0", over}} {
		plays(t, small(append(slices.Clone(begun), x.line)...), slices.Concat(first, []string{x.reply}, x.told)...)
	}
	for n := range 7 {
		one := asRule(t, "Run", given{Text: small(append(slices.Clone(begun), "rounds "+string(rune('0'+n)))...)})
		each := asRule(t, "Run", given{Text: small(append(slices.Clone(begun), slices.Repeat([]string{"rounds 1"}, n)...)...)})
		if a, b := told(one.Text), told(each.Text); a != b || a == "" {
			t.Error(n, a, b)
		}
	}
}

// told are the lines of a transcript from its first query on.
func told(text string) string {
	_, behind, is := strings.Cut("\n"+text, "\nquery ")
	if !is {
		return ""
	}
	return "query " + behind
}

// P30.3: as many parcels as there may be on their way: one comes no more twice.
func TestPlayManyParcels(t *testing.T) {
	t.Parallel()
	const groups = " SELECT x.c, 3 FROM u x LEFT JOIN u y ON x.c = y.c GROUP BY x.c"
	l := []string{"table u c int", "nodes 8"}
	l = append(l, slices.Repeat([]string{"submit" + groups + " UNION ALL" + groups + " UNION ALL" + groups}, api.MaxEpochs)...)
	l = append(l, slices.Repeat([]string{"tick 0"}, 106)...)
	got := does("Run", given{Text: lines(append(l, "twin 1", "tick 0", "lose 1", "twin 1", "twin 2", "twin 3", "lose 4", "come 5")...)})
	want := lines("6 0 20000", "0 0 20000", "0 0 19999", "4 0 19999")
	if at := strings.Index(got.Text, want); got.Err != api.OK || at < 0 {
		t.Fatal(got.Err, ends(got.Text, 40))
	}
	behind := strings.Split(got.Text[strings.Index(got.Text, want)+len(want):], "\n")
	if !strings.HasSuffix(behind[0], " 20000") || behind[1] != "6 0 20000" || behind[2] != "0 0 19999" || behind[3] != "0 0 19998" || behind[4] != "query 1" || behind[5] != "runs" {
		t.Error(behind[:8])
	}
}

// P30.3: ErrScript, and nothing, of a script that may not be.
func TestPlayNoScript(t *testing.T) {
	mayNotBe(t, noScripts()...)
	for _, s := range noScripts() {
		if text, e := script.Play(s); e != api.ErrScript || text != "" {
			t.Error(text, e)
		}
	}
}

// P30.3: Play is told of scripts, too, whose text is too long to be told.
func TestPlayLong(t *testing.T) {
	s := sized(api.MaxScript + 1)
	want := strings.Repeat("6 0 0\n", len(s.Events)-12)
	if got := asRule(t, "Play", given{Script: s}); got.Err != api.OK || !strings.Contains(got.Text, want) || told(got.Text) == "" {
		t.Error(short(got))
	}
}

// P30.3: Run tells the place and the error of a text that is wrong, and nothing of what stands ahead of that.
func TestRunWrong(t *testing.T) {
	good := small("submit SELECT c FROM u", "rounds 9")
	isWrong(t, len(good), good+"rounds 101\n")
	isWrong(t, len(good), good+"tick 0")
	isWrong(t, 0, "")
	isWrong(t, len("table u c int\n"), "table u c int\n")
	if text, at, e := script.Run(strings.Repeat("\n", api.MaxScript+1)); text != "" || at != 0 || e != api.ErrLong {
		t.Error(text, at, e)
	}
	if text, at, e := script.Run(good); text == "" || at != 0 || e != api.OK {
		t.Error(text, at, e)
	}
}
