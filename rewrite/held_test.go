package rewrite_test

import (
	"reflect"
	"strconv"
	"strings"
	"testing"

	"bowsprit/api"
	"bowsprit/logic"
	"bowsprit/rewrite"
)

// own gives a thing memory of its own; empty lists become nil, those within lists too, so that both are the same.
func own(v reflect.Value) {
	switch v.Kind() {
	case reflect.Struct:
		for k := range v.NumField() {
			own(v.Field(k))
		}
	case reflect.Slice:
		if v.Len() == 0 {
			v.SetZero()
			return
		}
		l := reflect.MakeSlice(v.Type(), v.Len(), v.Len())
		reflect.Copy(l, v)
		v.Set(l)
		for k := range v.Len() {
			own(v.Index(k))
		}
	}
}

func copyOf[T any](x T) T {
	own(reflect.ValueOf(&x).Elem())
	return x
}

// same holds things against one another without the program.
func same[T any](a, b T) bool {
	return reflect.DeepEqual(copyOf(a), copyOf(b))
}

// showExpr writes an expression short: its tags, columns and values in their order.
func showExpr(x api.Expr) string {
	var s []string
	for _, n := range x.Nodes {
		switch n.Tag {
		case api.ECol:
			s = append(s, "c"+strconv.Itoa(n.Col))
		case api.NLit:
			s = append(s, []string{"NULL", "B", "", "'"}[n.Value.Kind]+strconv.FormatInt(n.Value.N, 10)+n.Value.S)
		default:
			s = append(s, "t"+strconv.Itoa(n.Tag))
		}
	}
	if len(s) > 20 {
		s = append(s[:20], strconv.Itoa(len(x.Nodes)))
	}
	return strings.Join(s, " ")
}

// show writes a tree as far as its rules ask for it, a node a line.
func show(l api.Logic) string {
	var b strings.Builder
	for place, n := range l.Nodes {
		name := "?"
		if n.Op >= api.LScan && n.Op <= api.LSort {
			name = []string{"scan", "join", "filter", "group", "project", "distinct", "union", "sort"}[n.Op-1]
		}
		b.WriteString("\n  " + strconv.Itoa(place) + " " + name + " " + strconv.Itoa(n.A) + " " + strconv.Itoa(n.B) + " " + showExpr(n.Cond))
		for _, x := range n.Items {
			b.WriteString(", " + showExpr(x))
		}
		for _, k := range n.Keys {
			b.WriteString(" key " + strconv.Itoa(k))
		}
	}
	return b.String()
}

// isTree holds what a tree is rewritten to.
func isTree(t *testing.T, want api.Logic) func(api.Logic, api.Errno) {
	t.Helper()
	return func(got api.Logic, e api.Errno) {
		t.Helper()
		if e != api.OK || !same(got, want) {
			t.Errorf("%v%v\n not%v", e, show(got), show(want))
		}
	}
}

// isTop holds what Top answers.
func isTop(t *testing.T, want api.Logic, done bool) func(api.Logic, bool, api.Errno) {
	t.Helper()
	return func(got api.Logic, was bool, e api.Errno) {
		t.Helper()
		if e != api.OK || was != done || !same(got, want) {
			t.Errorf("%v %v%v\n not %v%v", e, was, show(got), done, show(want))
		}
	}
}

// sameKinds holds that two trees have the same kinds.
func sameKinds(t *testing.T, a, b api.Logic) {
	t.Helper()
	one, e := logic.Kinds(a)
	two, f := logic.Kinds(b)
	if e != api.OK || f != api.OK || !same(one, two) {
		t.Errorf("%v %v, %v %v:%v\n and%v", one, e, two, f, show(a), show(b))
	}
}

// becomes holds what a tree is rewritten to, that it is what is reckoned apart from the program, and stays so; and Top of it.
func becomes(t *testing.T, l, want api.Logic) {
	t.Helper()
	ruled(t, l)
	isTree(t, want)(rewrite.Rewrite(l))
	sameKinds(t, l, want)
}

// stays holds that no rule holds of a tree, nor of its parts.
func stays(t *testing.T, l api.Logic) {
	t.Helper()
	becomes(t, l, l)
	isTop(t, l, false)(rewrite.Top(l))
}

// tops holds what the first rule makes of a root, which is that one and its number; and that Rewrite makes the same, if more is said so.
func tops(t *testing.T, l api.Logic, rule int, want api.Logic) {
	t.Helper()
	isTop(t, want, true)(rewrite.Top(l))
	sameKinds(t, l, want)
	if number, _ := oneByRule(l); number != rule {
		t.Errorf("rule %v, not %v:%v", number, rule, show(l))
	}
	ruled(t, l)
}

// isNot holds that no rule holds of a root.
func isNot(t *testing.T, l api.Logic) {
	t.Helper()
	isTop(t, l, false)(rewrite.Top(l))
	if number, _ := oneByRule(l); number != 0 {
		t.Errorf("rule %v:%v", number, show(l))
	}
	ruled(t, l)
}

// ruled holds all that is made of a tree against what is reckoned apart from the program; and that what is rewritten stays so.
func ruled(t *testing.T, l api.Logic) api.Logic {
	t.Helper()
	want, _, _ := byRule(l)
	isTree(t, want)(rewrite.Rewrite(l))
	isTree(t, want)(rewrite.Rewrite(want))
	if number, made := oneByRule(l); number > 0 && len(made.Nodes) <= api.MaxLogic {
		isTop(t, made, true)(rewrite.Top(l))
	} else {
		isTop(t, l, false)(rewrite.Top(l))
	}
	return want
}

// isNone holds that an answer is an error, and beside it nothing.
func isNone(t *testing.T, l api.Logic, want api.Errno) {
	t.Helper()
	if got, e := rewrite.Rewrite(l); e != want || len(got.Nodes) != 0 {
		t.Errorf("%v of %v nodes, not %v", e, len(got.Nodes), want)
	}
	if got, done, e := rewrite.Top(l); e != want || done || len(got.Nodes) != 0 {
		t.Errorf("%v, %v of %v nodes, not %v", e, done, len(got.Nodes), want)
	}
}

// isTopOfRule holds that the first rule of a root is that one, and what it makes.
func isTopOfRule(t *testing.T, l api.Logic, rule int) {
	t.Helper()
	_, made := oneByRule(l)
	tops(t, l, rule, made)
}
