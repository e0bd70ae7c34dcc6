package script_test

import (
	"fmt"
	"reflect"
	"slices"
	"strings"
	"testing"

	"bowsprit/api"
	"bowsprit/script"
)

// shape gives a thing memory of its own; empty lists are nil there.
func shape(v reflect.Value) {
	switch v.Kind() {
	case reflect.Struct:
		for k := range v.NumField() {
			shape(v.Field(k))
		}
	case reflect.Slice:
		if v.Len() == 0 {
			v.SetZero()
			return
		}
		l := reflect.MakeSlice(v.Type(), v.Len(), v.Len())
		reflect.Copy(l, v)
		v.Set(l)
		for k := range v.Len() {
			shape(v.Index(k))
		}
	}
}

// copyOf is a thing with memory of its own.
func copyOf[T any](x T) T {
	shape(reflect.ValueOf(&x).Elem())
	return x
}

// same holds things against one another without the program.
func same[T any](a, b T) bool {
	return reflect.DeepEqual(a, b) || reflect.DeepEqual(copyOf(a), copyOf(b)) // the first is much less work, and mostly enough
}

// changing is a thing of which one thing is another.
func changing[T any](x T, change func(*T)) T {
	x = copyOf(x)
	change(&x)
	return x
}

// short is what a thing is told as, or how that begins.
func short(x any) string {
	s := fmt.Sprintf("%q", fmt.Sprint(x))
	return s[:min(len(s), 600)]
}

// given is what calls are handed.
type given struct {
	Script, Other api.Script
	Text          string
}

// answer is what a call answers, as far as it has it.
type answer struct {
	Script api.Script
	Text   string
	At     int
	Is     bool
	Err    api.Errno
}

// names are what the calls are called, in their order.
func names() []string {
	return []string{"Check", "Print", "Parse", "Play", "Run", "Same"}
}

// calls are all calls.
func calls() []func(g given) answer {
	return []func(g given) answer{
		func(g given) answer { return answer{Err: script.Check(g.Script)} },
		func(g given) answer {
			text, e := script.Print(g.Script)
			return answer{Text: text, Err: e}
		},
		func(g given) answer {
			s, at, e := script.Parse(g.Text)
			return answer{Script: s, At: at, Err: e}
		},
		func(g given) answer {
			text, e := script.Play(g.Script)
			return answer{Text: text, Err: e}
		},
		func(g given) answer {
			text, at, e := script.Run(g.Text)
			return answer{Text: text, At: at, Err: e}
		},
		func(g given) answer { return answer{Is: script.Same(g.Script, g.Other)} },
	}
}

// does is what a call of that name answers.
func does(name string, g given) answer {
	return calls()[slices.Index(names(), name)](g)
}

// asRule holds what a call answers against what it is to answer by rule, and tells that.
func asRule(t *testing.T, name string, g given) answer {
	t.Helper()
	got, want := does(name, g), rules()[slices.Index(names(), name)](g)
	if !same(got, want) {
		t.Errorf("%s of %v: %v, by rule %v", name, short(g), short(got), short(want))
	}
	return got
}

// mayBe and mayNotBe hold whether scripts may be; of such as may not be there is neither a text nor a transcript.
func mayBe(t *testing.T, l ...api.Script) {
	t.Helper()
	for _, s := range l {
		if got := asRule(t, "Check", given{Script: s}); got.Err != api.OK {
			t.Errorf("%v may not be: %v", short(s), got.Err)
		}
	}
}

func mayNotBe(t *testing.T, l ...api.Script) {
	t.Helper()
	for _, s := range l {
		for _, name := range []string{"Check", "Print", "Play"} {
			if got := asRule(t, name, given{Script: s}); !same(got, answer{Err: api.ErrScript}) {
				t.Errorf("%s of %v: %v", name, short(s), short(got))
			}
		}
	}
}

// isText holds that a script is this text, and the text this script.
func isText(t *testing.T, s api.Script, text string) {
	t.Helper()
	if got := asRule(t, "Print", given{Script: s}); !same(got, answer{Text: text}) {
		t.Errorf("Print of %v: %v, not %v", short(s), short(got), short(text))
	}
	if got := asRule(t, "Parse", given{Text: text}); !same(got, answer{Script: s}) {
		t.Errorf("Parse of %v: %v, not %v", short(text), short(got), short(s))
	}
}

// isWrong holds at which place a text is wrong, for whoever reads it.
func isWrong(t *testing.T, at int, text string) {
	t.Helper()
	for _, name := range []string{"Parse", "Run"} {
		if got := asRule(t, name, given{Text: text}); !same(got, answer{At: at, Err: api.ErrScript}) {
			t.Errorf("%s of %v: %v, not wrong at %v", name, short(text), short(got), at)
		}
	}
}

// wrongLine holds that a text is wrong from a line on, which stands behind some that are right; also if others stand behind that.
func wrongLine(t *testing.T, ahead, wrong string) {
	t.Helper()
	for _, behind := range []string{"\n", "", "\ntick 0\n", "\nnodes 1\n", "\n\n", "\ntable w a int\nnodes 2"} {
		isWrong(t, len(ahead), ahead+wrong+behind)
	}
}

// rightLine holds that a line may stand behind others that stand behind the line of nodes, and tells the script.
func rightLine(t *testing.T, ahead, right string) api.Script {
	t.Helper()
	got := asRule(t, "Parse", given{Text: ahead + right + "\n"})
	if got.Err != api.OK || got.At != 0 {
		t.Fatalf("%v behind %v is wrong at %v: %v", short(right), short(ahead), got.At, got.Err)
	}
	isText(t, got.Script, ahead+right+"\n")
	return got.Script
}

// plays holds what comes of a script, and of its text.
func plays(t *testing.T, text string, want ...string) {
	t.Helper()
	got := asRule(t, "Run", given{Text: text})
	if !same(got, answer{Text: lines(want...)}) {
		t.Errorf("Run of %q: %v, not %q", text, got, want)
	}
	s, _, e := script.Parse(text)
	must(t, e)
	if played := asRule(t, "Play", given{Script: s}); !same(played, got) {
		t.Errorf("Play of %v: %v, not %v", s, played, got)
	}
}

// lines is a text of lines.
func lines(l ...string) string {
	return strings.Join(append(l, ""), "\n")
}

// ends is what a text's last lines are, so many.
func ends(text string, count int) string {
	l := strings.SplitAfter(text, "\n")
	return strings.Join(l[max(0, len(l)-1-count):], "")
}

func must(t *testing.T, e api.Errno) {
	t.Helper()
	if e != api.OK {
		t.Fatal(e)
	}
}

// tally counts what calls answered.
type tally map[api.Errno]int

// metAll holds that each of these was answered, and nothing else.
func (l tally) metAll(t *testing.T, want ...api.Errno) {
	t.Helper()
	for _, e := range want {
		if l[e] == 0 {
			t.Error(e, "was never met:", l)
		}
	}
	if len(l) != len(want) {
		t.Error(l, want)
	}
}
