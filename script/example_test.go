package script_test

import (
	"testing"

	"bowsprit/api"
	"bowsprit/script"
)

// The chapter's examples.
func TestExamples(t *testing.T) {
	plays(t, lines("table t a int", "nodes 2", "row 1 t 5", "row 2 t 3", "submit SELECT a FROM t", "rounds 20"), "0 1 0", "0 0 0", "query 1", "ok 2", "3", "5")

	got := asRule(t, "Run", given{Text: lines("nodes 1", "submit SELECT", "tick 0")})
	if !same(got, answer{Text: lines("0 1 0", "0 0 0", "query 1", "error 190 6")}) {
		t.Error(got)
	}
	isWrong(t, 0, "")
	isWrong(t, 14, lines("table t a int"))
	isWrong(t, 0, lines("nodes 9"))
	isWrong(t, 8, lines("nodes 1", "tick 01"))
}

// What the examples read is the script that they say.
func TestExamplesRead(t *testing.T) {
	c := cat(tab("t", "a int"))
	l := api.Layout{Parts: []api.Base{partOf("5"), partOf("3")}}
	isText(t, scriptOf(c, l, submit("SELECT a FROM t"), rounds(20)), "table t a int\nnodes 2\nrow 1 t 5\nrow 2 t 3\nsubmit SELECT a FROM t\nrounds 20\n")
	isText(t, bare(submit("SELECT"), tick(0)), "nodes 1\nsubmit SELECT\ntick 0\n")
	isText(t, bare(), "nodes 1\n")
	if s, at, e := script.Parse("nodes 1\n"); e != api.OK || at != 0 || len(s.Layout.Parts) != 1 {
		t.Error(s, at, e)
	}
}
