package catalog_test

import (
	"slices"
	"strings"
	"testing"

	"bowsprit/api"
	"bowsprit/catalog"
)

// lineByRule is the line of a table, laid without the program.
func lineByRule(x api.Table) string {
	s := "table " + x.Name
	for _, c := range x.Columns {
		s += " " + c.Name + []string{api.VBool: " bool", api.VInt: " int", api.VText: " text"}[c.Kind]
	}
	for place, k := range x.Keys {
		if place == 0 {
			s += " by"
		}
		s += " " + x.Columns[k].Name
	}
	return s + "\n"
}

// textByRule is the lines of tables, laid without the program.
func textByRule(l []api.Table) string {
	s := ""
	for _, x := range l {
		s += lineByRule(x)
	}
	return s
}

// keyByRule is the place of the column of a name, or -1.
func keyByRule(x api.Table, name string) int {
	return slices.IndexFunc(x.Columns, func(c api.Column) bool { return c.Name == name })
}

// readByRule is the table of a line without its line feed, word by word; false, if it is no line of a table that may be.
func readByRule(line string) (api.Table, bool) {
	words := strings.Split(line, " ")
	if len(words) < 2 || words[0] != "table" {
		return api.Table{}, false
	}
	x := api.Table{Name: words[1]}
	words = words[2:]
	for len(words) > 0 && words[0] != "by" {
		if len(words) == 1 || kinds[words[1]] == 0 {
			return api.Table{}, false
		}
		x.Columns = append(x.Columns, api.Column{Name: words[0], Kind: kinds[words[1]]})
		words = words[2:]
	}
	if len(words) == 1 {
		return api.Table{}, false
	}
	for k := 1; k < len(words); k++ {
		x.Keys = append(x.Keys, keyByRule(x, words[k]))
	}
	return x, tableByRule(x)
}

// parseByRule is the catalog of a text, and the place where it is wrong.
func parseByRule(text string) ([]api.Table, int, api.Errno) {
	if len(text) > 1000 {
		return nil, 0, api.ErrLong
	}
	var l []api.Table
	seen := map[string]int{}
	pieces := strings.Split(text, "\n")
	last, at := len(pieces)-1, 0
	for place, piece := range pieces[:last] {
		x, ok := readByRule(piece)
		seen[x.Name]++
		if !ok || seen[x.Name] > 1 || place >= 4 {
			return nil, at, api.ErrLine
		}
		l = append(l, x)
		at += len(piece) + 1
	}
	if pieces[last] != "" {
		return nil, at, api.ErrLine
	}
	return l, 0, api.OK
}

// isRead holds that a text is a catalog's, and that these are its lines.
func isRead(t *testing.T, text string, l ...api.Table) {
	t.Helper()
	c, at, e := catalog.Parse(text)
	if e != api.OK || at != 0 || !sameTables(c.Tables, l) {
		t.Errorf("%q: %v, %v, %v, not %v", text, c, at, e, l)
	}
	if s, e := catalog.Print(cat(l...)); e != api.OK || s != text {
		t.Errorf("%v: %q, %v, not %q", l, s, e, text)
	}
}

// isWrong holds that a text is refused.
func isWrong(t *testing.T, text string, place int, want api.Errno) {
	t.Helper()
	if c, at, e := catalog.Parse(text); e != want || at != place || len(c.Tables) != 0 {
		t.Errorf("%q: %v, %v, %v, not %v at %v", text, c, at, e, want, place)
	}
}

// isAsByRule holds a text against the reckoning above, and tells whether it is right.
func isAsByRule(t *testing.T, text string) bool {
	t.Helper()
	l, at, e := parseByRule(text)
	if e != api.OK {
		isWrong(t, text, at, e)
		return false
	}
	isRead(t, text, l...)
	return true
}

// P11.4: ordinary catalogs, the chapter's examples among them, with and without Keys; none, and as many tables as there may be.
func TestLines(t *testing.T) {
	isRead(t, "")
	isRead(t, "table t a int b text by a\n", tab("t", "a int b text", 0))
	isRead(t, "table t a int\n", tab("t", "a int"))
	isRead(t, "table u a bool b int c text d int by a c d\ntable t a text\n", tab("u", "a bool b int c text d int", 0, 2, 3), tab("t", "a text"))
	isRead(t, "table table table bool int int text text bool text by table int text bool\n", tab("table", "table bool int int text text bool text", 0, 1, 2, 3))
	isRead(t, "table "+long+" "+long+" text by "+long+"\n", tab(long, long+" text", 0))
	for n := range api.MaxTables + 1 {
		isRead(t, textByRule(few()[:n]), few()[:n]...)
	}
	isWrong(t, "table t a int by b\n", 0, api.ErrLine)
	isWrong(t, "table t a int\ntable t b int\n", 14, api.ErrLine)
}

// P11.4: the greatest catalog that there may be.
func TestGreatestLines(t *testing.T) {
	var l []api.Table
	name := func(k int) string { return strings.Repeat("n", api.MaxName-1) + string(rune('a'+k)) }
	for k := range api.MaxTables {
		x := api.Table{Name: name(k), Keys: []int{0, 1, 2, 3}}
		for c := range api.MaxColumns {
			x.Columns = append(x.Columns, api.Column{Name: name(c), Kind: []int{api.VText, api.VBool}[c%2]})
		}
		l = append(l, x)
	}
	isRead(t, textByRule(l), l...)
}

// wrongLines are lines, without their line feeds, that are none of a table that may be.
func wrongLines() []string {
	l := []string{
		"", " ", "a", "table", "table ", "table t", "table t ", "table t a", "table t a ", "tablet a int", "table ta int", "table t aint", "t a int", "a int", "by a", "by",
		" table t a int", "  table t a int", "table  t a int", "table t  a int", "table t a  int", "table t a int ", "table t a int  b int", "table t a int b  int", "table t a int b int ",
		"table t a int  by a", "table t a int by  a", "table t a int by a ", "table t a int b int by a  b", "table t a int b int by ab", "table t a int b int bya", "table t a intby a",
		"Table t a int", "TABLE t a int", "tables t a int", "tabl t a int", "table t a int BY a", "table t a int By a", "tab t a int", "row t a int", "table: t a int",
		"table T a int", "table t A int", "table select a int", "table t select int", "table by a int", "table t by int", "table t by int by by", "table null a int", "table t true bool",
		"table t a", "table t a int b", "table t int", "table t a int int", "table t int int int", "table t a int b text c", "table t by a", "table t by", "table by", "table t a by a", "table t a int b by a",
		"table t a null", "table t a sum", "table t a INT", "table t a Int", "table t a integer", "table t a ints", "table t a in", "table t a bool1", "table t a texts", "table t a 2", "table t a VInt", "table t a b", "table t a table",
		"table t a int by", "table t a int by ", "table t a int by b", "table t a int by t", "table t a int by int", "table t a int by by", "table t a int by A", "table t a int by 0", "table t a int by a b", "table t a int by b a",
		"table t a int by a by a", "table t a int by a int", "table t a int by a b int", "table t by a a int",
		"table t a int b int by b a", "table t a int b int by a a", "table t a int b int by b b", "table t a int b int c int by a c b", "table t a int b int c int by a b c a", "table t a int b int by a b b",
		"table t a int a int", "table t a int b text a bool", "table t a int b int c int d int e int", "table t a int b int c int d int e int by e",
		"table " + long + "6 a int", "table t " + long + "6 int", "table t a int by " + long + "6",
		"table t a int,b int", "table t (a int)", "table t a int;", "table t 'a' int", "table t 1 int", "table 1 a int", "table t a-b int", "table t a.b int", "table t.a int",
		"table\tt a int", "table t\ta int", "table t a\tint", "table t a int\t", "table t a int\r", "\ttable t a int", "table t a int\v", "table t a\u00a0int", "table t a int\x00", "\x00table t a int", "table t \u00e9 int", "table t a\xff int", "\ufefftable t a int",
	}
	for _, name := range noNames() {
		l = append(l, "table "+name+" a int", "table t "+name+" int", "table t a int by "+name)
	}
	return slices.DeleteFunc(l, func(s string) bool { return len(s) > 300 || strings.Contains(s, "\n") })
}

// P11.4: the place of a line that is wrong: the first, one in the midst, the last, with and without a line feed, and whatever stands behind it.
func TestWrongLines(t *testing.T) {
	right := []string{"table u a int\n", "table v a int b text by b\n", "table w a bool\n", "table x x int\n"}
	for _, wrong := range wrongLines() {
		for n := range api.MaxTables + 1 {
			ahead := strings.Join(right[:n], "")
			isWrong(t, ahead+wrong+"\n", len(ahead), api.ErrLine)
			if wrong != "" {
				isWrong(t, ahead+wrong, len(ahead), api.ErrLine)
			}
			for _, behind := range []string{"\n", "table", "table t a int\n", "table u a int\n", "table k k int\n\n", wrong, wrong + "\n", "\x00", "\r\n"} {
				isWrong(t, ahead+wrong+"\n"+behind, len(ahead), api.ErrLine)
			}
		}
	}
}

// P11.4: a line that would be right, if it had a line feed behind it; empty lines.
func TestLineFeeds(t *testing.T) {
	for n := range api.MaxTables {
		ahead := textByRule(few()[:n])
		line := lineByRule(few()[n])
		isRead(t, ahead+line, few()[:n+1]...)
		for cut := 1; cut < len(line); cut++ {
			isWrong(t, ahead+line[:cut], len(ahead), api.ErrLine)
		}
		isWrong(t, ahead+"\n", len(ahead), api.ErrLine)
		isWrong(t, ahead+"\n"+line, len(ahead), api.ErrLine)
		isWrong(t, ahead+line+"\n", len(ahead)+len(line), api.ErrLine)
		isWrong(t, ahead+line+" ", len(ahead)+len(line), api.ErrLine)
		isWrong(t, ahead+line[:len(line)-1]+"\r\n", len(ahead), api.ErrLine)
		isWrong(t, ahead+"\n\n\n", len(ahead), api.ErrLine)
	}
}

// P11.4: a line that is right, but of a table that is there already, or of one too many.
func TestTablesOfLines(t *testing.T) {
	for n := range api.MaxTables {
		ahead := textByRule(few()[:n+1])
		for place := range n + 1 {
			isWrong(t, ahead+lineByRule(few()[place]), len(ahead), api.ErrLine)
			isWrong(t, ahead+"table "+few()[place].Name+" other text\n", len(ahead), api.ErrLine)
			isWrong(t, ahead+"table "+few()[place].Name+" other text\n"+lineByRule(few()[5]), len(ahead), api.ErrLine)
		}
	}
	full := textByRule(few()[:api.MaxTables])
	for _, x := range few() {
		isWrong(t, full+lineByRule(x), len(full), api.ErrLine)
		isWrong(t, full+lineByRule(x)+"\n", len(full), api.ErrLine)
	}
}

// P11.4: a text of as many bytes as there may be, and of one more: that goes ahead of a line that is wrong.
func TestLongLines(t *testing.T) {
	right := textByRule(few()[:4])
	for _, ahead := range []string{"", right, right[:len(right)-1], "\n", "a"} {
		for _, filling := range []string{"x", "\n", " ", "\x00", "table t a int\n"} {
			text := ahead + strings.Repeat(filling, api.MaxLines+1)
			if isAsByRule(t, text[:api.MaxLines]) {
				t.Errorf("%q is right", text)
			}
			isWrong(t, text[:api.MaxLines+1], 0, api.ErrLong)
		}
	}
	isWrong(t, right+strings.Repeat("x", api.MaxLines-len(right)), len(right), api.ErrLine)
	isWrong(t, right+strings.Repeat("x", api.MaxLines-len(right)+1), 0, api.ErrLong)
	isWrong(t, strings.Repeat("\n", api.MaxLines), 0, api.ErrLine)
	isWrong(t, strings.Repeat("\n", api.MaxLines+1), 0, api.ErrLong)
	isWrong(t, strings.Repeat("table t a int\n", 1<<16), 0, api.ErrLong)
}
