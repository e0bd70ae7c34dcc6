package catalog

import (
	"iter"
	"strings"

	"bowsprit/api"
)

// The words of a line, and what stands between each two of its parts and behind it.
const (
	wordTable = "table"
	wordBy    = "by"
	blank     = " "
	lineFeed  = "\n"
)

// kindWords are the words of the kinds that a column may have.
var kindWords = [...]string{api.VBool: "bool", api.VInt: "int", api.VText: "text"}

// wordOf is a kind's word, and nothing of a kind that no column may have.
func wordOf(kind int) string {
	if kind < 0 || kind >= len(kindWords) {
		return ""
	}
	return kindWords[kind]
}

// kindOf is the kind of a word. Of a word of none it is VNull, which no column may have.
func kindOf(word string) int {
	for kind, w := range kindWords {
		if w == word {
			return kind
		}
	}
	return api.VNull
}

// lineOf is the line of a table that may be.
func lineOf(t api.Table) string {
	parts := []string{wordTable, t.Name}
	for _, c := range t.Columns {
		parts = append(parts, c.Name, wordOf(c.Kind))
	}
	if len(t.Keys) > 0 {
		parts = append(parts, wordBy)
	}
	for _, k := range t.Keys {
		parts = append(parts, t.Columns[k].Name)
	}
	return strings.Join(parts, blank) + lineFeed
}

// Print: P11.4.
func Print(c api.Catalog) (string, api.Errno) {
	if !isCatalog(c) {
		return "", api.ErrCatalog
	}
	var text strings.Builder
	for _, t := range c.Tables {
		text.WriteString(lineOf(t))
	}
	return text.String(), api.OK
}

// lines tells a text's lines in turn, each with the place where it begins, and with the line feed behind it: just the last one may have none.
func lines(text string) iter.Seq2[int, string] {
	return func(yield func(int, string) bool) {
		for at := 0; at < len(text); {
			end := len(text)
			if n := strings.Index(text[at:], lineFeed); n >= 0 {
				end = at + n + len(lineFeed)
			}
			if !yield(at, text[at:end]) {
				return
			}
			at = end
		}
	}
}

// keysOf are the places of columns that are named; false, if a name is that of none.
func keysOf(t api.Table, names []string) ([]int, bool) {
	var keys []int
	for _, name := range names {
		place, there := Column(t, name)
		if !there {
			return nil, false
		}
		keys = append(keys, place)
	}
	return keys, true
}

// tableOf is the table that a line says, which may be one that may not be; false, if it is no line. A name that is the word by may be read as that word, for it is no name.
func tableOf(line string) (api.Table, bool) {
	body, ended := strings.CutSuffix(line, lineFeed)
	ahead, behind, keyed := strings.Cut(body, blank+wordBy+blank)
	parts := strings.Split(ahead, blank)
	if !ended || len(parts)%2 != 0 || parts[0] != wordTable {
		return api.Table{}, false
	}
	t := api.Table{Name: parts[1]}
	for k := 2; k < len(parts); k += 2 {
		t.Columns = append(t.Columns, api.Column{Name: parts[k], Kind: kindOf(parts[k+1])})
	}
	if !keyed {
		return t, true
	}
	keys, ok := keysOf(t, strings.Split(behind, blank))
	t.Keys = keys
	return t, ok
}

// Parse (P11.4) leaves it to Add which tables may not be, are there already, or are one too many.
func Parse(text string) (api.Catalog, int, api.Errno) {
	if len(text) > api.MaxLines {
		return api.Catalog{}, 0, api.ErrLong
	}
	var c api.Catalog
	for at, l := range lines(text) {
		t, ok := tableOf(l)
		if !ok {
			return api.Catalog{}, at, api.ErrLine
		}
		next, e := Add(c, t)
		if e != api.OK {
			return api.Catalog{}, at, api.ErrLine
		}
		c = next
	}
	return c, 0, api.OK
}
