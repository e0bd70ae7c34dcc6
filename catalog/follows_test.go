package catalog_test

import (
	"math/rand"
	"slices"
	"strings"
	"testing"

	"bowsprit/api"
	"bowsprit/catalog"
)

// anyTable is a table of chance that may be.
func anyTable(r *rand.Rand) api.Table {
	l := names()
	x := api.Table{Name: l[r.Intn(len(l))]}
	for place, k := range r.Perm(len(l))[:1+r.Intn(api.MaxColumns)] {
		x.Columns = append(x.Columns, api.Column{Name: l[k], Kind: api.VBool + r.Intn(3)})
		if r.Intn(3) == 0 {
			x.Keys = append(x.Keys, place)
		}
	}
	return x
}

// anyTables are tables of chance, which may be one catalog's.
func anyTables(r *rand.Rand) []api.Table {
	var l []api.Table
	for range r.Intn(api.MaxTables + 1) {
		x := anyTable(r)
		if !slices.ContainsFunc(l, func(y api.Table) bool { return y.Name == x.Name }) {
			l = append(l, x)
		}
	}
	return l
}

// P11.5: Parse of Print is the catalog, Print of Parse the text.
func TestPrintAndParse(t *testing.T) {
	r := rand.New(rand.NewSource(110))
	for range 3000 {
		l := anyTables(r)
		text, e := catalog.Print(cat(l...))
		if e != api.OK {
			t.Fatal(l, e)
		}
		c, at, e := catalog.Parse(text)
		if e != api.OK || at != 0 || !catalog.Same(c, cat(l...)) || catalog.Check(c) != api.OK {
			t.Errorf("%q: %v, %v, %v, not %v", text, c, at, e, l)
		}
		isRead(t, textByRule(l), l...)
	}
}

// P11.4, P11.5: texts that are right, each with one byte less, one more, or another one; with a word less, more, or another one.
func TestNearlyRight(t *testing.T) {
	r := rand.New(rand.NewSource(111))
	parts := strings.Split("table by bool int text a b t u 1 A  sum null \n a\n", " ")
	right, wrong := 0, 0
	count := func(text string) {
		if isAsByRule(t, text) {
			right++
		} else {
			wrong++
		}
	}
	for range 60 {
		text := textByRule(anyTables(r))
		for at := range len(text) + 1 {
			ahead, behind := text[:at], text[at:]
			for _, b := range []string{" ", "\n", "a", "y", "0", "_", "A", "\t", "\r", "\x00", "\xff", "\u00e9"} {
				count(ahead + b + behind)
				if behind != "" {
					count(ahead + b + behind[1:])
				}
			}
			if behind != "" {
				count(ahead + behind[1:])
				count(ahead)
				count(behind)
			}
		}
		words := strings.Split(text, " ")
		for at := range words {
			count(strings.Join(slices.Delete(slices.Clone(words), at, at+1), " "))
			for _, p := range parts {
				count(strings.Join(slices.Insert(slices.Clone(words), at, p), " "))
				words := slices.Clone(words)
				words[at] = p
				count(strings.Join(words, " "))
			}
		}
	}
	if right < 1000 || wrong < 10000 {
		t.Error(right, wrong)
	}
}

// P11.4: texts of words laid by chance.
func TestWordsByChance(t *testing.T) {
	r := rand.New(rand.NewSource(112))
	right := 0
	for range 100000 {
		text := ""
		for range 1 + r.Intn(3) {
			text += "table " + []string{"t", "u", "by", "int"}[r.Intn(4)]
			for range 1 + r.Intn(3) {
				text += " " + []string{"a", "b", "t", "by", "int"}[r.Intn(5)] + []string{" int", " text", " bool", " by", ""}[r.Intn(5)]
			}
			if r.Intn(2) == 0 {
				text += " by" + []string{" a", " b", " a b", " b a", " t", " by", ""}[r.Intn(7)]
			}
			text += []string{"\n", "\n", "\n", "\n", "", " \n"}[r.Intn(6)]
		}
		if isAsByRule(t, text) {
			right++
		}
	}
	if right < 2000 {
		t.Error(right)
	}
}

// P11.5: a text that is wrong from a line on is wrong there, whatever stands behind that line.
func TestWrongFromALineOn(t *testing.T) {
	r := rand.New(rand.NewSource(113))
	lines := wrongLines()
	for range 5000 {
		text := ""
		for _, x := range anyTables(r) {
			text += lineByRule(x)
		}
		text += lines[r.Intn(len(lines))] + "\n"
		_, at, e := catalog.Parse(text)
		if e != api.ErrLine {
			t.Fatalf("%q: %v", text, e)
		}
		for range 4 {
			behind := make([]byte, r.Intn(api.MaxLines-len(text)+1))
			for k := range behind {
				behind[k] = "\n abtxi\x00\xff"[r.Intn(9)]
			}
			isWrong(t, text+string(behind), at, api.ErrLine)
			isWrong(t, text+textByRule(few()[:r.Intn(2)]), at, api.ErrLine)
		}
	}
}

// P11.5: what was added and dropped leads back, to the catalog itself, and by all steps to none.
func TestAddedAndDropped(t *testing.T) {
	r := rand.New(rand.NewSource(114))
	for range 2000 {
		c, x := cat(anyTables(r)...), anyTable(r)
		more, e := catalog.Add(c, x)
		place, there := catalog.Find(c, x.Name)
		switch {
		case there:
			if e != api.ErrThere || c.Tables[place].Name != x.Name {
				t.Error(c, x, e)
			}
			continue
		case len(c.Tables) == api.MaxTables:
			if e != api.ErrFull {
				t.Error(c, x, e)
			}
			continue
		}
		if place, there := catalog.Find(more, x.Name); e != api.OK || !there || place != len(c.Tables) || catalog.Check(more) != api.OK {
			t.Error(c, x, more, e)
		}
		back, e := catalog.Drop(more, x.Name)
		if e != api.OK || !catalog.Same(back, c) || catalog.Same(back, more) {
			t.Error(c, x, back, e)
		}
		for len(more.Tables) > 0 {
			name := more.Tables[r.Intn(len(more.Tables))].Name
			more, e = catalog.Drop(more, name)
			if _, there := catalog.Find(more, name); there || e != api.OK || catalog.Check(more) != api.OK {
				t.Fatal(more, name, e)
			}
		}
		if !catalog.Same(more, cat()) {
			t.Error(more)
		}
	}
}

// P11.5: a catalog is the same, whether its tables are added one by one or read.
func TestAddedOneByOne(t *testing.T) {
	r := rand.New(rand.NewSource(115))
	for range 1000 {
		l := anyTables(r)
		c := cat()
		for _, x := range l {
			next, e := catalog.Add(c, x)
			if e != api.OK {
				t.Fatal(c, x, e)
			}
			c = next
		}
		read, _, e := catalog.Parse(textByRule(l))
		if e != api.OK || !catalog.Same(c, read) || !catalog.Same(read, c) || !sameTables(c.Tables, l) {
			t.Error(c, read, e)
		}
	}
}

// R5, R3: what a text was read to may be changed; read again it is the same.
func TestReadAgain(t *testing.T) {
	text := textByRule(few()[:4])
	for range 3 {
		c, _, _ := catalog.Parse(text)
		if !sameTables(c.Tables, few()[:4]) {
			t.Error(c)
		}
		spoil(c)
	}
}
