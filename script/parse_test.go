package script_test

import (
	"fmt"
	"strings"
	"testing"

	"bowsprit/api"
)

// P30.2: ErrLong, and 0, of a text of more bytes than there may be, whatever it is; not of just as many.
func TestParseLong(t *testing.T) {
	right := writtenByRule(sized(api.MaxScript))
	isText(t, sized(api.MaxScript), right)
	for _, text := range []string{right + "\n", right + "x", right + "tick 0\n", " " + right, strings.Repeat("x", api.MaxScript+1), strings.Repeat("\n", api.MaxScript+1), strings.Repeat("tick 0\n", 40000), writtenByRule(sized(api.MaxScript + 1))} {
		for _, name := range []string{"Parse", "Run"} {
			if got := asRule(t, name, given{Text: text}); !same(got, answer{Err: api.ErrLong}) {
				t.Errorf("%v of %v bytes: %v at %v", name, len(text), got.Err, got.At)
			}
		}
	}
	isWrong(t, 0, strings.Repeat("x", api.MaxScript))
	isWrong(t, 0, strings.Repeat("\n", api.MaxScript))
	last := strings.LastIndex(right[:len(right)-1], "\n") + 1
	isWrong(t, last, right[:len(right)-1])
	isWrong(t, last, right[:len(right)-1]+"x")
	isWrong(t, last, right[:last]+strings.ToUpper(right[last:]))
}

// P30.2: a text that ends ahead of the line of nodes is wrong at its length.
func TestParseEnds(t *testing.T) {
	isWrong(t, 0, "")
	all := lines("table t a int b text by a", "table u c int d bool", "table v a text b bool by a b", "table w x int")
	at := 0
	for _, line := range strings.SplitAfter(all, "\n") {
		at += len(line)
		isWrong(t, at, all[:at])
		rightLine(t, all[:at], "nodes 1")
	}
	if at != len(all) {
		t.Error(at)
	}
}

// P30.2: a last line that has no line feed behind it is wrong, whichever it is, and wherever it ends.
func TestParseNoLineFeed(t *testing.T) {
	text := writtenByRule(plain())
	at := 0
	for _, line := range strings.SplitAfter(text, "\n") {
		for n := 1; n < len(line); n++ {
			isWrong(t, at, text[:at]+line[:n])
		}
		at += len(line)
	}
	for _, s := range []string{"x", " ", "nodes", "nodes 1", "nodes 1 ", "tick 0", "\r"} {
		isWrong(t, 0, s)
	}
}

// P30.2: an empty line is wrong, wherever it stands, and one of blanks, or of other bytes that stand for nothing.
func TestParseEmptyLine(t *testing.T) {
	text := writtenByRule(plain())
	at := 0
	for _, line := range strings.SplitAfter(text, "\n") {
		for _, empty := range []string{"\n", " \n", "  \n", "\t\n", "\r\n", "\x00\n", "\n\n", "#\n", "''\n", "0\n"} {
			isWrong(t, at, text[:at]+empty+text[at:])
			isWrong(t, at, text[:at]+empty)
		}
		at += len(line)
	}
}

// freeFrom is the place in a line, behind which blanks are a text's own.
func freeFrom(line string) int {
	if strings.HasPrefix(line, "submit ") {
		return len("submit ")
	}
	if at := strings.Index(line, "'"); at > 0 {
		return at + 1
	}
	return len(line)
}

// P30.2: a blank too many, too few, or another byte in its stead, at each place of each line.
func TestParseBlanks(t *testing.T) {
	text := writtenByRule(plain())
	at, tried := 0, 0
	for _, full := range strings.SplitAfter(text, "\n") {
		line := strings.TrimSuffix(full, "\n")
		for k := 0; k < len(line); k++ {
			more := text[:at] + line[:k] + " " + line[k:] + text[at+len(line):]
			fewer := text[:at] + line[:k] + line[k+1:] + text[at+len(line):]
			if k < freeFrom(line) && !strings.HasPrefix(line[k:], " SELECT") {
				isWrong(t, at, more)
				tried++
			}
			if line[k] == ' ' && k < freeFrom(line) {
				isWrong(t, at, fewer)
				for _, b := range []string{"\t", "_", "-", "\r", "\x00", "\xa0", ".", ","} {
					isWrong(t, at, text[:at]+line[:k]+b+line[k+1:]+text[at+len(line):])
				}
			}
			asRule(t, "Parse", given{Text: more})
			asRule(t, "Parse", given{Text: fewer})
		}
		if line != "" && !strings.HasPrefix(line, "submit ") {
			isWrong(t, at, text[:at]+line+" "+text[at+len(line):])
			isWrong(t, at, text[:at]+line+"\r"+text[at+len(line):])
		}
		at += len(full)
	}
	if tried < 200 {
		t.Error(tried)
	}
}

// P30.2: each byte of a text, spoiled: it is wrong there, or another script.
func TestParseSpoiled(t *testing.T) {
	text := writtenByRule(plain())
	met := tally{}
	for at := range len(text) {
		for _, b := range []byte{0, '\n', ' ', '\'', '0', '1', '9', '-', 'a', 'z', 'A', 127, 255, text[at] ^ 1, text[at] ^ 32} {
			spoiled := text[:at] + string([]byte{b}) + text[at+1:]
			met[asRule(t, "Parse", given{Text: spoiled}).Err]++
		}
	}
	met.metAll(t, api.OK, api.ErrScript)
	if met[api.OK] < 300 || met[api.ErrScript] < 3000 {
		t.Error(met)
	}
}

// noNumbers are such as are written otherwise than any number is.
func noNumbers() []string {
	return []string{"", "00", "01", "007", "+1", "-1", "-0", "--1", "x", "1x", "x1", "0x1", "1_0", "1e1", "1.0", "1.", ".1", "'1'", "NULL", "TRUE", "１", "²", "1'", "1\x00", "99999999999999999999999999", "18446744073709551615", "18446744073709551616", "18446744073709551617", "9223372036854775808", "4611686018427387904"}
}

// P30.2: of each Kind each number: up to its greatest, one more, and such as are none; and a part too few, and one too many.
func TestParseNumbers(t *testing.T) {
	ahead := head() + "tick 0\n"
	for word, kind := range words() {
		fields, most := counting(kind)
		if kind == api.EvSubmit {
			continue
		}
		for k := range fields {
			with := func(number string) string {
				l := strings.Split(word+strings.Repeat(" 1", len(fields)), " ")
				l[k+1] = number
				return strings.Join(l, " ")
			}
			for _, n := range []int64{0, 1, 2, 9, 10, 99, 100, most[k] - 1, most[k]} {
				if n <= most[k] {
					rightLine(t, ahead, with(fmt.Sprint(n)))
				}
			}
			for _, n := range []int64{most[k] + 1, most[k] + 2, most[k]*10 + 9, 1 << 41, 1<<63 - 1, most[k] + 1<<32, most[k] + 1<<8*7} {
				if n > most[k] {
					wrongLine(t, ahead, with(fmt.Sprint(n)))
				}
			}
			for _, s := range append(noNumbers(), "0"+fmt.Sprint(most[k]), " 1", "1 ") {
				wrongLine(t, ahead, with(s))
			}
		}
		for n := range 5 {
			line := word + strings.Repeat(" 1", n)
			if n == len(fields) {
				rightLine(t, ahead, line)
				continue
			}
			wrongLine(t, ahead, line)
			wrongLine(t, ahead, line+" ")
		}
		for _, other := range []string{strings.ToUpper(word), word[1:], word[:len(word)-1], word + "s", " " + word, "_" + word} {
			wrongLine(t, ahead, other+strings.Repeat(" 1", len(fields)))
		}
	}
}

// P30.2: the line of nodes: from one to as many as there may be; and such as are none.
func TestParseNodes(t *testing.T) {
	for _, ahead := range []string{"", "table t a int\n"} {
		for n := 1; n <= api.MaxSites; n++ {
			if s := rightLine(t, ahead, fmt.Sprint("nodes ", n)); len(s.Layout.Parts) != n {
				t.Error(n, s)
			}
		}
		for _, n := range append(noNumbers(), "0", "9", "10", "08", "256", "257", "4294967297", "1 1", "1 ", " 1") {
			wrongLine(t, ahead, "nodes "+n)
		}
		for _, line := range []string{"nodes", "node 1", "Nodes 1", "nodes1", " nodes 1", "nodes  1"} {
			wrongLine(t, ahead, line)
		}
	}
}

// P30.2: a line that may stand elsewhere, in a place where it may not.
func TestParsePlaces(t *testing.T) {
	one := "table t a int\n"
	for _, line := range []string{"row 1 t 1", "tick 0", "submit SELECT", "rounds 1", "row 1 t", "cancel 1", "spoil 1 1 1"} { // ahead of nodes
		wrongLine(t, "", line)
		wrongLine(t, one, line)
	}
	for _, behind := range []string{"nodes 1\n", "nodes 1\nrow 1 t 1\n", "nodes 1\ntick 0\n", "nodes 1\nrow 1 t 1\ntick 0\n"} {
		for _, line := range []string{"table u a int", "table t a int", "nodes 1", "nodes 2", "query 1", "ok 1", "runs", "error 1 0"} {
			wrongLine(t, one+behind, line)
		}
	}
	wrongLine(t, one+"nodes 1\ntick 0\n", "row 1 t 1") // a row behind an event
	wrongLine(t, one+"nodes 1\nrow 1 t 1\nsubmit SELECT\n", "row 1 t 1")
	rightLine(t, one+"nodes 1\nrow 1 t 1\n", "row 1 t 1")
}

// P30.2: lines of tables: as the catalog has them; one too many, one that is there already, one that may not be.
func TestParseTables(t *testing.T) {
	ahead := lines("table t a int b text by a", "table u c int d bool")
	for _, line := range []string{"table v a text", "table v a text b bool c int d text by a b c d", "table v t int u text by t"} {
		rightLine(t, ahead+line+"\n", "nodes 2")
	}
	for _, line := range []string{"table", "table ", "table v", "table v ", "table v a", "table v a int b", "table v a int by", "table v a int by b", "table v a int by a a", "table v a int b int by b a", "table v a sum", "table v a null", "table v a INT", "table v a int a text", "table t a int", "table u c int d bool", "table V a int", "table select a int", "table 1 a int", "Table v a int", "table v a int b int c int d int e int", "table v\ta int", "table v a int ", "table  v a int", " table v a int", "table " + long(17) + " a int", "table v " + strings.Repeat("a", 200) + " int", "table v" + strings.Repeat(" a int", 500)} {
		wrongLine(t, ahead, line)
	}
	full := ahead + lines("table v a text", "table w a text")
	rightLine(t, full, "nodes 1")
	wrongLine(t, full, "table x a text")
	wrongLine(t, full, "table v a text")
}

// P30.2: rows stand part by part, of one table by table; in their order within that.
func TestParseRowOrder(t *testing.T) {
	ahead := simple()
	places := []string{"row 1 t 1", "row 1 u 'a' NULL", "row 2 t 2", "row 2 u NULL TRUE"}
	for k, first := range places {
		for n, second := range places {
			if k <= n {
				s := rightLine(t, ahead+first+"\n", second)
				if rows := s.Layout.Parts[n/2].Tables[n%2]; len(rows) == 0 {
					t.Error(first, second, s.Layout)
				}
				for m, third := range places {
					if m < n {
						wrongLine(t, ahead+first+"\n"+second+"\n", third)
					} else {
						rightLine(t, ahead+first+"\n"+second+"\n", third)
					}
				}
			} else {
				wrongLine(t, ahead+first+"\n", second)
			}
		}
	}
	s := rightLine(t, ahead+"row 2 t 7\nrow 2 t 3\n", "row 2 t 5")
	if !same(s.Layout, api.Layout{Parts: []api.Base{partOf("", ""), partOf("7 / 3 / 5", "")}}) {
		t.Error(s.Layout)
	}
	wrongLine(t, lines("table u b int", "table t a int", "nodes 1", "row 1 t 1"), "row 1 u 1") // as the catalog has them, not by their names
}

// P30.2: rows at nodes, and of tables, that there are not; with values too few, too many, or of another kind.
func TestParseRows(t *testing.T) {
	ahead := simple()
	for _, line := range []string{"row", "row ", "row 1", "row 1 ", "row 1 t", "row 1 t ", "row t 1 1", "row t 1", "rows 1 t 1", "row 1 v 1", "row 1 T 1", "row 1 tt 1", "row 1 'a' NULL", "row 1  1", "row 1 t 1 1", "row 1 t 1 ", "row 1 t  1", "row 1 u 'a'", "row 1 u 'a' TRUE NULL", "row 1 u 'a' TRUE ", "row 1 u", "row 1 t TRUE", "row 1 t '1'", "row 1 u 1 TRUE", "row 1 u 'a' 1", "row 1 u TRUE 'a'", "row 1 u 'a''b'", "row 1 u 'a'TRUE", "row 1 u 'a' TRUE'"} {
		wrongLine(t, ahead, line)
	}
	for _, n := range append(noNumbers(), "0", "3", "8", "10", "257", "4294967297", "02") {
		wrongLine(t, ahead, "row "+n+" t 1")
	}
	for _, line := range []string{"row 1 t 1", "row 2 t 1", "row 1 t NULL", "row 2 u NULL NULL", "row 1 u 'a b' FALSE", "row 2 u '' NULL", "row 1 u ' ' TRUE"} {
		rightLine(t, ahead, line)
	}
	wrongLine(t, "nodes 1\n", "row 1 t 1")
	wrongLine(t, "nodes 1\n", "row 1")
	wrongLine(t, "nodes 1\n", "row 1 ")
}

// P30.2: literals that are written otherwise than a script's are.
func TestParseLiterals(t *testing.T) {
	ahead := simple()
	for _, s := range []string{"", "null", "Null", "01", "-01", "-0", "+1", "--1", "1.0", "1e0", "0x1", "1_0", "9223372036854775808", "-9223372036854775809", "99999999999999999999", "NULL'", "N", "-", "1-", "'", "(1)"} {
		wrongLine(t, ahead, "row 1 t "+s)
	}
	for _, s := range []string{"0", "-1", "10", "9223372036854775807", "-9223372036854775808", "NULL"} {
		rightLine(t, ahead, "row 1 t "+s)
	}
	for _, s := range []string{"'", "'a", "a'", "a", "'a'b'", "'''", "''''' ", "'a''", "\"a\"", "'a' 'b'", "'" + long(41) + "'", "'" + strings.Repeat("''", 41) + "'", "'a\x7fb'", "'a\tb'", "'\x1f'", "'é'", "'a\x00'", "'\xff'"} {
		wrongLine(t, ahead, "row 1 u "+s+" TRUE")
	}
	for _, s := range []string{"''", "''''", "''''''", "'a'", "' '", "'a '' b'", "'NULL'", "' TRUE '", "'''a'''", "'" + long(40) + "'", "'" + strings.Repeat("''", 40) + "'", "'row 1 t 1'", "'~ '", "'\\n'"} {
		rightLine(t, ahead, "row 1 u "+s+" TRUE")
		rightLine(t, ahead, "row 2 u "+s+" NULL")
	}
	for _, s := range []string{"true", "True", "1", "0", "'TRUE'", "null", "false", "FALSE.", "T"} {
		wrongLine(t, ahead, "row 1 u 'a' "+s)
	}
	for _, s := range []string{"TRUE", "FALSE", "NULL"} {
		rightLine(t, ahead, "row 1 u 'a' "+s)
	}
}

// P30.2: rows that lie where they may not by the hash of their keys.
func TestParseAstray(t *testing.T) {
	right := 0
	for n := range int64(12) {
		for node := 1; node <= 3; node++ {
			line := fmt.Sprintf("row %d t %d 'x'", node, n)
			if at := placed(fmt.Sprint(n, " 'x'"), "", "", "").Parts[node-1].Tables[0]; len(at) == 1 {
				rightLine(t, head(), line)
				right++
			} else {
				wrongLine(t, head(), line)
			}
		}
	}
	if right != 12 {
		t.Error(right)
	}
	for node := 1; node <= 3; node++ { // by both of its columns
		for _, r := range []string{"'a' TRUE", "'a' FALSE", "NULL NULL"} {
			asRule(t, "Parse", given{Text: head() + fmt.Sprintf("row %d v %s\n", node, r)})
		}
	}
}

// P30.2: of a table as many rows as there may be, at one node or at several; one more is wrong.
func TestParseManyRows(t *testing.T) {
	for k := range 13 {
		text := simple() + strings.Repeat("row 1 t 5\n", k) + "row 1 u NULL NULL\n" + strings.Repeat("row 2 t 5\n", 12-k)
		rightLine(t, text, "tick 0")
		if k < 12 {
			wrongLine(t, text, "row 2 t 5")
			rightLine(t, text, "row 2 u NULL NULL")
		}
	}
	wrongLine(t, simple()+strings.Repeat("row 1 t 5\n", 12), "row 1 t 6")
	wrongLine(t, simple()+strings.Repeat("row 1 t 5\n", 12), "row 2 t NULL")
	wrongLine(t, simple()+strings.Repeat("row 2 u NULL NULL\n", 12), "row 2 u NULL NULL")
}

// P30.2: submit: with nothing behind its blank, but with that; with a text of blanks; of as many bytes as there may be, and more.
func TestParseSubmit(t *testing.T) {
	for _, ahead := range []string{head(), head() + "submit \n", simple() + "row 1 t 1\n"} {
		for _, s := range []string{"", " ", "   ", "SELECT", " SELECT ", "submit ", "tick 0", "'", "\"", "0", "~", long(600), long(601), strings.Repeat(" ", 601), "SELECT c FROM u"} {
			got := rightLine(t, ahead, "submit "+s)
			if e := got.Events[len(got.Events)-1]; e != submit(s) {
				t.Errorf("%q: %v", s, e)
			}
		}
		for _, line := range []string{"submit", "Submit SELECT", "submi t", "submit_SELECT", " submit SELECT", "submit\tSELECT", "submit " + long(602), "submit " + strings.Repeat(" ", 602), "submit " + long(5000), "submit SELECT\t1", "submit a\x7f", "submit \x1f", "submit é", "submit \x00", "submit a\r"} {
			wrongLine(t, ahead, line)
		}
	}
	for b := range 256 {
		if c := string([]byte{byte(b)}); 32 <= b && b <= 126 {
			rightLine(t, "nodes 1\n", "submit a"+c)
		} else if c != "\n" {
			isWrong(t, 8, "nodes 1\nsubmit a"+c+"\n")
			isWrong(t, 8, "nodes 1\nsubmit "+c+"a\n")
		}
	}
}

// P30.2: as many events as there may be; the next one is wrong, whatever it is.
func TestParseManyEvents(t *testing.T) {
	for _, line := range []string{"tick 0", "submit ", "submit SELECT c FROM u", "rounds 0"} {
		text := simple() + "row 1 t 1\n" + strings.Repeat(line+"\n", api.MaxPlayed-1)
		if s := rightLine(t, text, line); len(s.Events) != api.MaxPlayed {
			t.Error(len(s.Events))
		}
		text += line + "\n"
		for _, more := range []string{line, "tick 1", "submit SELECT", "x", ""} {
			isWrong(t, len(text), text+more+"\n")
		}
		isWrong(t, len(text), text+strings.Repeat(line+"\n", 100))
	}
}

// P30.2: of several wrong lines the first one, whether it is wrong for itself or by what stands ahead of it.
func TestParseFirst(t *testing.T) {
	const ahead, itself, place = "table t a int\nnodes 2\n", "tick 01\n", "nodes 2\n" // wrong everywhere; wrong where there are nodes already
	for _, x := range []struct {
		right string
		wrong []string
	}{
		{"", []string{itself, place}},
		{"", []string{place, itself}},
		{"row 1 t 1\n", []string{"row 1 t 'x'\n", place}},
		{"row 2 t 1\n", []string{"row 1 t 1\n", itself}},
		{"row 2 t 1\n", []string{itself, "row 1 t 1\n"}},
		{"tick 0\n", []string{"row 1 t 1\n", "tick\n"}},
		{"tick 0\n", []string{itself, "row 1 t 1\n", "tick 0\n"}},
	} {
		isWrong(t, len(ahead+x.right), ahead+x.right+strings.Join(x.wrong, ""))
	}
	text := writtenByRule(plain())
	for at := 0; at < len(text); at += strings.Index(text[at:], "\n") + 1 {
		for later := at; later < len(text); later += strings.Index(text[later:], "\n") + 1 {
			isWrong(t, at, text[:at]+"?\n"+text[at:later]+"??\n"+text[later:])
			isWrong(t, at, text[:at]+"? "+text[at:later]+"\n"+text[later:])
		}
	}
}

// P30.2: a text that is right but for what stands behind its last line.
func TestParseBehind(t *testing.T) {
	for _, text := range []string{"nodes 1\n", head(), writtenByRule(plain()), writtenByRule(bare(tick(0)))} {
		for _, s := range []string{" ", "\n", "x", "x\n", "\x00", "#", "nodes 1\n", "query 1\n", "\r\n", "tick", "tick 0", "tick 0 \n"} {
			isWrong(t, len(text), text+s)
		}
	}
}

// R1: places that might be told of one byte less, or of runes instead of bytes.
func TestParseBytes(t *testing.T) {
	isWrong(t, len("nodes 1\nsubmit ~\n"), "nodes 1\nsubmit ~\nsubmit é\ntick x\n")
	isWrong(t, 0, "é\nnodes 1\n")
	isWrong(t, 0, "\xff")
	isWrong(t, 0, "\ufeffnodes 1\n")
	isWrong(t, 8, "nodes 1\n\x00\n")
}
