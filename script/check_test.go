package script_test

import (
	"math"
	"reflect"
	"slices"
	"strings"
	"testing"

	"bowsprit/api"
)

// P30.1: scripts that may be: with and without tables, rows, events; at one node, and at as many as there may be.
func TestCheck(t *testing.T) {
	mayBe(t, plain(), bare(), bare(eachKind()...), scriptOf(tables(), placed("", "")), scriptOf(tables(), parts()))
	for n := range api.MaxSites + 4 {
		s := scriptOf(tables(), api.Layout{Parts: make([]api.Base, n)}, eachKind()...)
		for k := range s.Layout.Parts {
			s.Layout.Parts[k].Tables = make([][]api.Row, 3)
		}
		if 1 <= n && n <= api.MaxSites {
			mayBe(t, s)
		} else {
			mayNotBe(t, s)
		}
	}
	mayNotBe(t, api.Script{}, api.Script{Events: eachKind()}, api.Script{Catalog: tables()})
}

// P30.1: the catalog may not be.
func TestCheckCatalog(t *testing.T) {
	for _, change := range []func(c *api.Catalog){
		func(c *api.Catalog) { c.Tables[0].Name = "" }, func(c *api.Catalog) { c.Tables[0].Name = "T" }, func(c *api.Catalog) { c.Tables[0].Name = "u" }, func(c *api.Catalog) { c.Tables[0].Name = "select" }, func(c *api.Catalog) { c.Tables[2].Name = strings.Repeat("x", 17) },
		func(c *api.Catalog) { c.Tables[1].Columns[0].Kind = kn }, func(c *api.Catalog) { c.Tables[1].Columns[0].Kind = ks }, func(c *api.Catalog) { c.Tables[1].Columns[0].Name = "d" }, func(c *api.Catalog) { c.Tables[0].Columns[1].Name = "b c" },
		func(c *api.Catalog) { c.Tables[2].Keys = []int{1, 0} }, func(c *api.Catalog) { c.Tables[2].Keys = []int{0, 2} }, func(c *api.Catalog) { c.Tables[1].Columns = nil }, func(c *api.Catalog) { c.Tables = append(c.Tables, c.Tables[0]) },
	} {
		mayNotBe(t, of(plain(), func(s *api.Script) { change(&s.Catalog) }))
	}
	five := cat(tab("a", "a int"), tab("b", "a int"), tab("c", "a int"), tab("d", "a int"), tab("e", "a int"))
	for n := range 6 {
		s := scriptOf(cat(five.Tables[:n]...), api.Layout{Parts: []api.Base{{Tables: make([][]api.Row, n)}}})
		if n <= api.MaxTables {
			mayBe(t, s)
		} else {
			mayNotBe(t, s)
		}
	}
}

// P30.1: place does not let the layout be.
func TestCheckLayout(t *testing.T) {
	s := plain()
	for node, part := range s.Layout.Parts {
		for table, rows := range part.Tables {
			for to := range s.Layout.Parts {
				moved := of(s, func(s *api.Script) {
					own := s.Layout.Parts[to].Tables
					own[table] = append(own[table], rows...)
					if node != to {
						s.Layout.Parts[node].Tables[table] = nil
					}
				})
				if len(rows) == 0 || node == to || table == 1 {
					mayBe(t, moved)
				} else {
					mayNotBe(t, moved)
				}
			}
		}
	}
	for _, change := range []func(l []api.Base){
		func(l []api.Base) { l[0].Tables = nil }, func(l []api.Base) { l[1].Tables = l[1].Tables[:2] }, func(l []api.Base) { l[2].Tables = append(l[2].Tables, nil) },
		func(l []api.Base) { l[0].Tables[1] = list("1") }, func(l []api.Base) { l[0].Tables[1] = list("1 TRUE 1") }, func(l []api.Base) { l[0].Tables[1] = []api.Row{{}} }, func(l []api.Base) { l[2].Tables[1] = []api.Row{nil} },
		func(l []api.Base) { l[0].Tables[1] = list("TRUE TRUE") }, func(l []api.Base) { l[0].Tables[1] = list("'a' TRUE") }, func(l []api.Base) { l[0].Tables[1] = list("1 1") }, func(l []api.Base) { l[0].Tables[1] = []api.Row{{under(1), yes}} },
		func(l []api.Base) { l[0].Tables[1][0][0].U = 1 }, func(l []api.Base) { l[0].Tables[1][0][0].S = "1" }, func(l []api.Base) { l[0].Tables[1][0][1].N = 2 }, func(l []api.Base) { l[0].Tables[1][0][0].Kind = 5 }, func(l []api.Base) { l[0].Tables[1][1][1].N = 1 },
	} {
		mayNotBe(t, of(s, func(s *api.Script) { change(s.Layout.Parts) }))
	}
}

// P30.1: of a table as many rows as there may be, at one node and at several, and one more.
func TestCheckRows(t *testing.T) {
	for _, counts := range [][3]int{{12, 0, 0}, {0, 12, 0}, {0, 0, 12}, {4, 4, 4}, {11, 0, 1}} {
		s := of(plain(), func(s *api.Script) {
			for k, n := range counts {
				s.Layout.Parts[k].Tables[1] = slices.Repeat(list("7 NULL"), n)
			}
		})
		mayBe(t, s)
		for k := range counts {
			mayNotBe(t, of(s, func(s *api.Script) {
				own := s.Layout.Parts[k].Tables
				own[1] = append(own[1], list("8 TRUE")...)
			}))
		}
	}
}

// P30.1: of each text that a row has the bytes that are written, and none else, wherever it stands in it.
func TestCheckTexts(t *testing.T) {
	for b := range 256 {
		c := string([]byte{byte(b)})
		for _, s := range []string{c, c + "xyz", "x" + c + "z", "xyz" + c, strings.Repeat("x", 39) + c} {
			if 32 <= b && b <= 126 {
				mayBe(t, textAt(s)...)
			} else {
				mayNotBe(t, textAt(s)...)
			}
		}
	}
	mayBe(t, textAt(strings.Repeat("'", 40))...)
	mayNotBe(t, textAt(strings.Repeat("x", 41))...)
	mayNotBe(t, textAt("é")...)
	s := plain()
	for k, part := range s.Layout.Parts {
		for table, rows := range part.Tables {
			for n, r := range rows {
				for column, v := range r {
					if v.Kind == kt && !slices.Contains(s.Catalog.Tables[table].Keys, column) {
						mayNotBe(t, of(s, func(s *api.Script) { s.Layout.Parts[k].Tables[table][n][column].S = "a\nb" }))
						mayBe(t, of(s, func(s *api.Script) { s.Layout.Parts[k].Tables[table][n][column].S = "a'b " }))
					}
				}
			}
		}
	}
}

// P30.1: as many events as there may be, and one more; whichever they are.
func TestCheckCount(t *testing.T) {
	for _, e := range append(eachKind(), submit("")) {
		mayBe(t, playing(many(399, e)...), playing(many(400, e)...))
		mayNotBe(t, playing(many(401, e)...), playing(many(1000, e)...))
	}
}

// setField is an event with a number in a field; false, if it has no room for that.
func setField(e api.Event, name string, n int64) (api.Event, bool) {
	switch v := reflect.ValueOf(&e).Elem().FieldByName(name); {
	case v.CanInt():
		v.SetInt(n)
		return e, true
	case n < 0 || v.OverflowUint(uint64(n)):
		return e, false
	default:
		v.SetUint(uint64(n))
		return e, true
	}
}

// numberFields are all fields of an event that are numbers, but its Kind.
func numberFields() []string {
	return []string{"Epoch", "Node", "To", "At", "Num", "By"}
}

// P30.1: of each Kind each number that counts, from 0 to its greatest, one more, below 0, and far from that; one that does not count is zero.
func TestCheckNumbers(t *testing.T) {
	tried := 0
	for _, was := range eachKind() {
		fields, most := counting(was.Kind)
		for _, name := range numberFields() {
			greatest, k := int64(0), slices.Index(fields, name)
			if k >= 0 {
				greatest = most[k]
			}
			l := []int64{0, 1, 2, 100, 101, 255, 256, 1<<31 - 1, 1 << 31, 1<<40 + 1, 1<<40 + 2, greatest - 1, greatest, greatest + 1, -1, -2}
			for _, n := range far() {
				l = append(l, int64(n))
			}
			for _, n := range l {
				e, is := setField(was, name, n)
				switch {
				case !is:
				case 0 <= n && n <= greatest:
					mayBe(t, playing(e), playing(tick(0), e, tick(1)))
					tried++
				default:
					mayNotBe(t, playing(e), playing(tick(0), e, tick(1)), playing(tick(0), tick(1), e))
				}
			}
		}
		for _, num := range []uint64{1 << 63, math.MaxUint64, 1<<40 + 2} {
			mayNotBe(t, playing(changing(was, func(e *api.Event) { e.Num = num })))
		}
		if was.Kind != api.EvSubmit {
			for _, s := range []string{" ", "a", "SELECT", "\n"} {
				mayNotBe(t, playing(changing(was, func(e *api.Event) { e.Text = s })))
			}
		}
	}
	if tried < 100 {
		t.Error(tried)
	}
}

// P30.1: such Kinds as there are, and none else, whatever an event of them has.
func TestCheckKinds(t *testing.T) {
	for _, kind := range append(far(), numbers(-3, 30)...) {
		for _, was := range append(eachKind(), api.Event{}) {
			e := was
			if e.Kind = kind; kind < 1 || kind > 9 {
				mayNotBe(t, playing(e), playing(tick(0), e))
			} else if e != was && was != (api.Event{}) {
				asRule(t, "Check", given{Script: playing(e)})
			}
		}
		if e := (api.Event{Kind: kind}); 1 <= kind && kind <= 9 {
			mayBe(t, playing(e)) // all that counts of it is zero
		}
	}
}

// P30.1: of EvSubmit a Text from none to one byte more than a query may have; each of its bytes is written.
func TestCheckSubmitted(t *testing.T) {
	for _, n := range []int{0, 1, 40, 599, 600, 601} {
		mayBe(t, playing(submit(long(n))), playing(submit(strings.Repeat(" ", n))))
	}
	for _, n := range []int{602, 603, 5000} {
		mayNotBe(t, playing(submit(long(n))), playing(tick(1), submit(strings.Repeat(" ", n))))
	}
	for b := range 256 {
		c := string([]byte{byte(b)})
		for _, s := range []string{c, c + "SELECT", "SELECT" + c, "SELECT" + c + "c FROM u", long(600) + c} {
			if 32 <= b && b <= 126 {
				mayBe(t, playing(submit(s)))
			} else {
				mayNotBe(t, playing(submit(s)))
			}
		}
	}
	mayNotBe(t, playing(submit("SELECT 'é'")), playing(submit("SELECT c\nFROM u")), playing(submit("\t")))
}
