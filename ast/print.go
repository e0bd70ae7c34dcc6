package ast

import (
	"strconv"
	"strings"

	"bowsprit/api"
	"bowsprit/value"
)

// mark is how many parts a node has, and what is written ahead of its left part, and behind that one.
type mark struct {
	parts         int
	ahead, behind string
}

// marks are the marks of all tags. Of a literal and a name nothing is written besides what they are.
var marks = [...]mark{
	api.NLit:      {0, "", ""},
	api.NName:     {0, "", ""},
	api.NCountAll: {0, "COUNT(*)", ""},
	api.NNeg:      {1, "- ", ""},
	api.NNot:      {1, "NOT ", ""},
	api.NIsNull:   {1, "", " IS NULL"},
	api.NNotNull:  {1, "", " IS NOT NULL"},
	api.NCount:    {1, "COUNT(", ")"},
	api.NSum:      {1, "SUM(", ")"},
	api.NMin:      {1, "MIN(", ")"},
	api.NMax:      {1, "MAX(", ")"},
	api.NAdd:      {2, "", " + "},
	api.NSub:      {2, "", " - "},
	api.NMul:      {2, "", " * "},
	api.NDiv:      {2, "", " / "},
	api.NEq:       {2, "", " = "},
	api.NNe:       {2, "", " <> "},
	api.NLt:       {2, "", " < "},
	api.NLe:       {2, "", " <= "},
	api.NGt:       {2, "", " > "},
	api.NGe:       {2, "", " >= "},
	api.NAnd:      {2, "", " AND "},
	api.NOr:       {2, "", " OR "},
}

// isCall tells of the tags that bring parentheses of their own.
func isCall(tag int) bool {
	return within(tag, api.NCount, api.NMax)
}

// when is a text, if something is so, else nothing.
func when(ok bool, s string) string {
	if ok {
		return s
	}
	return ""
}

// clause is what is written behind words, if there is something.
func clause(words, s string) string {
	return when(s != "", words+" "+s)
}

// listed is what is written of all of a list.
func listed[T any](l []T, written func(T) string) string {
	parts := make([]string, len(l))
	for k, x := range l {
		parts[k] = written(x)
	}
	return strings.Join(parts, ", ")
}

// writer is what has been written.
type writer struct {
	strings.Builder
}

// add lays parts close together.
func (w *writer) add(parts ...string) {
	for _, p := range parts {
		w.WriteString(p)
	}
}

// lay lays parts with one blank between each two; one that is empty is not there.
func (w *writer) lay(parts ...string) {
	for _, p := range parts {
		if p != "" {
			w.add(when(w.Len() > 0, " "), p)
		}
	}
}

// written is parts with one blank between each two.
func written(parts ...string) string {
	var w writer
	w.lay(parts...)
	return w.String()
}

func nameText(n api.Name) string {
	return when(n.Table != "", n.Table+".") + n.Name
}

// leafText is what a literal and a name are.
func leafText(n api.Node) string {
	switch n.Tag {
	case api.NLit:
		s, _ := value.Print(n.Value)
		return s
	case api.NName:
		return nameText(api.Name{Table: n.Table, Name: n.Name})
	}
	return ""
}

// treeText is how a tree that may be is written, and nothing of one without nodes.
func treeText(t api.Tree) string {
	if len(t.Nodes) == 0 {
		return ""
	}
	var w writer
	var write func(place int, alone bool)
	write = func(place int, alone bool) {
		n := t.Nodes[place]
		m := marks[n.Tag]
		bare := alone || m.parts == 0 || isCall(n.Tag)
		w.add(when(!bare, "("), m.ahead, leafText(n))
		if n.L >= 0 {
			write(n.L, isCall(n.Tag))
		}
		w.add(m.behind)
		if n.R >= 0 {
			write(n.R, false)
		}
		w.add(when(!bare, ")"))
	}
	write(len(t.Nodes)-1, true)
	return w.String()
}

// PrintTree: P8.4.
func PrintTree(t api.Tree) (string, api.Errno) {
	if e := CheckTree(t); e != api.OK {
		return "", e
	}
	return treeText(t), api.OK
}

func itemText(i api.Item) string {
	return written(treeText(i.Tree), clause("AS", i.As))
}

func keyText(k api.Key) string {
	return written(when(k.Name == "", strconv.Itoa(k.Number)), k.Name, when(k.Desc, "DESC"))
}

// laySelect lays each part of a select that is there.
func (w *writer) laySelect(s api.Select) {
	w.lay("SELECT", when(s.Distinct, "DISTINCT"), when(s.Star, "*"), listed(s.Items, itemText))
	w.lay("FROM", s.From.Table, s.From.As)
	for _, j := range s.Joins {
		w.lay(when(j.Left, "LEFT"), "JOIN", j.Source.Table, j.Source.As, "ON", treeText(j.On))
	}
	w.lay(clause("WHERE", treeText(s.Where)), clause("GROUP BY", listed(s.Group, nameText)), clause("HAVING", treeText(s.Having)))
}

// Print: P8.4.
func Print(q api.Query) (string, api.Errno) {
	if e := Check(q); e != api.OK {
		return "", e
	}
	var w writer
	for k, s := range q.Selects {
		w.lay(when(k > 0, "UNION ALL"))
		w.laySelect(s)
	}
	w.lay(clause("ORDER BY", listed(q.Keys, keyText)), when(q.Limit >= 0, "LIMIT "+strconv.Itoa(q.Limit)))
	return w.String(), api.OK
}
