package query_test

import (
	"strings"
	"testing"

	"bowsprit/api"
)

// up orders by a column, the least first.
func up(column int) api.Ord {
	return api.Ord{Col: column}
}

// answered are the plans of texts whose rows are sorted at all nodes, and again at the coordinator's, with what comes ahead of that.
func answered(limit int, order []api.Ord, kinds []int, frags []api.Frag, l ...api.LNode) api.Plan {
	last := onAll(api.WayGather, append(l, sortBy(limit, order...))...)
	end := root(input(len(frags), kinds...), sortBy(limit, order...))
	return planOf(append(frags, last, end)...)
}

// P27.1: texts of one table: items, conditions, in an order, up to a limit, each once.
func TestTextsOfOneTable(t *testing.T) {
	c := tables()
	one := []int{ki}
	compiles(t, c, "SELECT c FROM u", answered(-1, nil, one, nil, scanU(), picked(0)), "c")
	compiles(t, c, "select a, b as n, 5, b from t x", answered(-1, nil, []int{ki, ki, ki, ki}, nil, scanT(), project(col(0), col(1), num(5), col(1))), "a", "n", "", "b")
	compiles(t, c, "SELECT * FROM v", answered(-1, nil, []int{kt, kb, ki}, nil, scanV(), picked(0, 1, 2)), "d", "e", "f")
	compiles(t, c, "SELECT d FROM v WHERE e AND f > 3 LIMIT 0", answered(0, nil, []int{kt}, nil, scanV(), filter(on(api.NAnd, col(1), on(api.NGt, col(2), num(3)))), picked(0)), "d")
	compiles(t, c, "SELECT a, b FROM t ORDER BY b DESC, 1 LIMIT 2", answered(2, []api.Ord{down(1), up(0)}, []int{ki, ki}, nil, scanT(), picked(0, 1)), "a", "b")
	compiles(t, c, "SELECT DISTINCT a FROM t", answered(-1, nil, one, nil, scanT(), picked(0), distinct()), "a")
	compiles(t, c, "SELECT DISTINCT b FROM t", answered(-1, nil, one, []api.Frag{by(onAll(api.WayShuffle, scanT(), picked(1)), 0)}, input(0, ki), distinct()), "b")
	compiles(t, c, "SELECT NULL FROM u", answered(-1, nil, []int{kn}, nil, scanU(), project(lit(null))), "")
}

// P27.1: texts of groups, by columns by which the rows lie, by others, by none.
func TestTextsOfGroups(t *testing.T) {
	c := tables()
	sums := []api.Agg{agg(api.AggAll), agg(api.AggSum, col(1))}
	compiles(t, c, "SELECT a, COUNT(*) AS n, SUM(b) FROM t GROUP BY a", answered(-1, nil, []int{ki, ki, ki}, nil, scanT(), group([]int{0}, sums...), picked(0, 1, 2)), "a", "n", "")
	parts := by(onAll(api.WayShuffle, scanT(), partial([]int{1}, agg(api.AggAll), agg(api.AggMax, col(0)))), 0)
	having := filter(on(api.NLt, col(1), num(3)))
	compiles(t, c, "SELECT b, MAX(a) FROM t GROUP BY b HAVING COUNT(*) < 3 ORDER BY b",
		answered(-1, []api.Ord{up(0)}, []int{ki, ki}, []api.Frag{by(onAll(api.WayShuffle, scanT(), partial([]int{1}, agg(api.AggMax, col(0)), agg(api.AggAll))), 0)}, input(0, ki, ki, ki), final(1, api.AggMax, api.AggAll), filter(on(api.NLt, col(2), num(3))), picked(0, 1)), "b", "")
	compiles(t, c, "SELECT b, COUNT(*), MAX(a) FROM t GROUP BY b HAVING COUNT(*) < 3",
		answered(-1, nil, []int{ki, ki, ki}, []api.Frag{parts}, input(0, ki, ki, ki), final(1, api.AggAll, api.AggMax), having, picked(0, 1, 2)), "b", "", "")
	all := planOf(onAll(api.WayGather, scanU(), partial(nil, agg(api.AggAll))), root(input(0, ki), final(0, api.AggAll), picked(0), sortBy(-1)))
	compiles(t, c, "SELECT COUNT(*) FROM u", all, "")
}

// P27.1: texts of several tables: by columns by which they lie, by others, by none; joined from the left.
func TestTextsOfJoins(t *testing.T) {
	c := tables()
	shuffled := []api.Frag{by(onAll(api.WayShuffle, scanU()), 0)}
	compiles(t, c, "SELECT b FROM t JOIN u ON a = c", answered(-1, nil, []int{ki}, shuffled, scanT(), input(0, ki), join(eq(0, 2)), picked(1)), "b")
	cast := []api.Frag{onAll(api.WayCast, scanU())}
	less := on(api.NLt, col(0), col(2))
	compiles(t, c, "SELECT a, c FROM t JOIN u ON a < c", answered(-1, nil, []int{ki, ki}, cast, scanT(), input(0, ki), join(less), picked(0, 2)), "a", "c")
	left := join(eq(1, 2))
	left.Left = true
	both := []api.Frag{by(onAll(api.WayShuffle, scanT()), 1), by(onAll(api.WayShuffle, scanU()), 0)}
	compiles(t, c, "SELECT a FROM t LEFT JOIN u ON b = c", answered(-1, nil, []int{ki}, both, input(0, ki, ki), input(1, ki), left, picked(0)), "a")
}

// P27.1: texts of several selects.
func TestTextsOfUnions(t *testing.T) {
	c := tables()
	compiles(t, c, "SELECT a FROM t UNION ALL SELECT c FROM u LIMIT 5", answered(5, nil, []int{ki}, nil, scanT(), picked(0), scanU(), picked(0), union()), "a")
	counted := onAll(api.WayGather, scanU(), partial(nil, agg(api.AggAll)))
	gathered := onAll(api.WayGather, scanT(), picked(1))
	last := root(input(0, ki), final(0, api.AggAll), picked(0), input(1, ki), union(), sortBy(-1))
	compiles(t, c, "SELECT COUNT(*) AS n FROM u UNION ALL SELECT b FROM t", planOf(counted, gathered, last), "n")
}

// P27.1: texts whose trees are rewritten ahead of their plan: filters that are true, that go below a join to its sides, or can't, what is distinct already, items of items.
func TestTextsThatAreRewritten(t *testing.T) {
	c := tables()
	one := []int{ki}
	compiles(t, c, "SELECT a FROM t WHERE TRUE", answered(-1, nil, one, nil, scanT(), picked(0)), "a")
	above, below, among := on(api.NEq, col(1), num(1)), on(api.NGt, col(0), num(2)), on(api.NLt, col(1), col(2))
	compiles(t, c, "SELECT a FROM t JOIN u ON a = c WHERE b = 1 AND b < c AND c > 2",
		answered(-1, nil, one, []api.Frag{by(onAll(api.WayShuffle, scanU(), filter(below)), 0)}, scanT(), filter(above), input(0, ki), join(eq(0, 2)), filter(among), picked(0)), "a")
	left := join(eq(0, 2))
	left.Left = true
	compiles(t, c, "SELECT a FROM t LEFT JOIN u ON a = c WHERE b = 1 AND c IS NULL",
		answered(-1, nil, one, []api.Frag{by(onAll(api.WayShuffle, scanU()), 0)}, scanT(), filter(above), input(0, ki), left, filter(on(api.NIsNull, col(2))), picked(0)), "a")
	fault := on(api.NEq, on(api.NDiv, num(1), col(1)), num(1))
	compiles(t, c, "SELECT a FROM t JOIN u ON a = c WHERE 1 / b = 1",
		answered(-1, nil, one, []api.Frag{by(onAll(api.WayShuffle, scanU()), 0)}, scanT(), input(0, ki), join(eq(0, 2)), filter(fault), picked(0)), "a")
	shuffled := by(onAll(api.WayShuffle, scanT(), partial([]int{1}, agg(api.AggAll))), 0)
	compiles(t, c, "SELECT DISTINCT COUNT(*), b FROM t GROUP BY b", answered(-1, nil, []int{ki, ki}, []api.Frag{shuffled}, input(0, ki, ki), final(1, api.AggAll), picked(1, 0)), "", "b")
	again := by(onAll(api.WayShuffle, input(0, ki, ki), final(1, api.AggAll), picked(1)), 0)
	compiles(t, c, "SELECT DISTINCT COUNT(*) FROM t GROUP BY b", answered(-1, nil, one, []api.Frag{shuffled, again}, input(1, ki), distinct()), "")
}

// P27.1: texts outside the grammar, each at its place, whatever their names name.
func TestTextsOutsideTheGrammar(t *testing.T) {
	c := tables()
	fails(t, c, "", api.ErrParse, 0)
	fails(t, c, " ", api.ErrParse, 1)
	fails(t, c, "SELECT a FROM t LIMIT", api.ErrParse, 21)
	fails(t, c, "SELECT zz FROM zz LIMIT", api.ErrParse, 23)
	fails(t, c, "SELECT a b FROM t", api.ErrParse, 9)
	fails(t, c, "SELECT a FROM t WHERE ?", api.ErrLex, 22)
	fails(t, c, "SELECT a FROM FROM t WHERE 'x", api.ErrLex, 27)
	fails(t, c, "SELECT a FROM t\x00", api.ErrLex, 15)
	fails(t, c, "SELECT a FROM t LIMIT 2147483648", api.ErrParse, 22)
	fails(t, c, "SELECT a, a, a, a, a, a, a FROM t", api.ErrMany, 23)
	fails(t, c, "SELECT zz FROM t JOIN t ON 1 JOIN t ON 1 JOIN t ON 1", api.ErrMany, 41)
	fails(t, c, "SELECT a FROM t UNION ALL SELECT a FROM t UNION ALL SELECT a FROM t UNION ALL SELECT a FROM t", api.ErrMany, 68)
	fails(t, c, "SELECT "+strings.Repeat("NOT ", 20)+"TRUE FROM zz", api.ErrDeep, 7)
	fails(t, c, "SELECT a FROM t WHERE "+strings.Repeat("- ", 30)+"1 = 1", api.ErrDeep, 22)
	deep := on(api.NNeg, col(1))
	for range api.MaxDepth - 2 {
		deep = on(api.NNeg, deep)
	}
	compiles(t, c, "SELECT "+strings.Repeat("- ", api.MaxDepth-1)+"b FROM t", answered(-1, nil, []int{ki}, nil, scanT(), project(deep)), "")
}

// P27.1: texts whose names are not there, or are there twice, whose kinds do not fit, or that have something where it may not be: each at its part's place.
func TestTextsThatAreNotBound(t *testing.T) {
	c := tables()
	fails(t, c, "SELECT a FROM zz", api.ErrTables, 0)
	fails(t, c, "SELECT a FROM t JOIN zz ON TRUE", api.ErrTables, 1)
	fails(t, c, "SELECT a FROM t JOIN t ON TRUE", api.ErrAlias, 1)
	fails(t, c, "SELECT a FROM t JOIN u ON b", api.ErrTruth, 1)
	fails(t, c, "SELECT a FROM t WHERE SUM(a) = 1", api.ErrAgg, 2)
	fails(t, c, "SELECT a FROM t WHERE a", api.ErrTruth, 2)
	fails(t, c, "SELECT 1 FROM t GROUP BY zz", api.ErrName, 3)
	fails(t, c, "SELECT zz FROM t", api.ErrName, 4)
	fails(t, c, "SELECT a FROM t JOIN t x ON TRUE", api.ErrTwice, 4)
	fails(t, c, "SELECT * FROM t GROUP BY b", api.ErrStar, 4)
	fails(t, c, "SELECT a + d FROM t JOIN v ON TRUE", api.ErrKind, 4)
	fails(t, c, "SELECT b, COUNT(*) FROM t GROUP BY b HAVING a > 1", api.ErrGroup, 5)
	fails(t, c, "SELECT COUNT(*) FROM t HAVING 1", api.ErrTruth, 5)
	fails(t, c, "SELECT a FROM t UNION ALL SELECT d FROM v", api.ErrUnion, 16)
	fails(t, c, "SELECT a FROM t UNION ALL SELECT zz FROM t", api.ErrName, 14)
	fails(t, c, "SELECT a FROM t UNION ALL SELECT c FROM u UNION ALL SELECT a, b FROM t", api.ErrUnion, 26)
	fails(t, c, "SELECT a FROM t ORDER BY 2", api.ErrName, 90)
	fails(t, c, "SELECT a, b AS a FROM t ORDER BY a", api.ErrTwice, 90)
	fails(t, c, "SELECT SUM(1)+SUM(2)+SUM(3)+SUM(4)+SUM(5)+SUM(6)+SUM(7)+SUM(8)+SUM(9)+SUM(10)+SUM(11)+SUM(12)+SUM(13) FROM t", api.ErrWide, 4)
	fails(t, api.Catalog{}, "SELECT c FROM u", api.ErrTables, 0)
	fails(t, api.Catalog{}, "SELECT c FROM", api.ErrParse, 13)
}

// P27.1: texts that are too long, by one byte and by many, whatever is in them; and such that are just not.
func TestTextsThatAreTooLong(t *testing.T) {
	c := tables()
	just := "SELECT c FROM u" + strings.Repeat(" ", api.MaxSource-15)
	compiles(t, c, just, answered(-1, nil, []int{ki}, nil, scanU(), picked(0)), "c")
	fails(t, c, just+" ", api.ErrLong, 0)
	fails(t, c, strings.Repeat("?", api.MaxSource+1), api.ErrLong, 0)
	fails(t, c, strings.Repeat("?", api.MaxSource), api.ErrLex, 0)
	fails(t, c, strings.Repeat(just, 9), api.ErrLong, 0)
	fails(t, c, strings.Repeat(" ", api.MaxSource-1)+"?", api.ErrLex, api.MaxSource-1)
}

// badCatalogs are such as may not be.
func badCatalogs() []api.Catalog {
	t, u := tab("t", "a int b int", 0), tab("u", "c int")
	l := []api.Catalog{cat(api.Table{}), cat(t, t), cat(t, tab("T", "a int")), cat(tab("t", "a int a int")), cat(tab("t", "a int", 1)), cat(t, tab("from", "a int")), cat(t, u, tab("v", "a int"), tab("w", "a int"), tab("x", "a int"))}
	for _, kind := range []int{kn, ks, 5, -1} {
		l = append(l, cat(t, api.Table{Name: "u", Columns: []api.Column{{Name: "c", Kind: kind}}}))
	}
	return l
}

// P27.1: of a catalog that may not be nothing compiles, and no life begins, whatever text and epoch stand beside it.
func TestCatalogsThatMayNotBe(t *testing.T) {
	texts := []string{"SELECT a FROM t", "SELECT c FROM u", "", "?", "SELECT zz FROM zz", strings.Repeat("a", api.MaxSource+1)}
	for _, c := range badCatalogs() {
		for _, text := range texts {
			fails(t, c, text, api.ErrCatalog, 0)
			for epoch := -1; epoch <= api.MaxEpochs+2; epoch++ {
				begun(t, given{Catalog: c, Epoch: epoch, Text: text}, answer{Err: api.ErrCatalog})
			}
			for _, epoch := range far() {
				begun(t, given{Catalog: c, Epoch: epoch, Text: text}, answer{Err: api.ErrCatalog})
			}
		}
	}
}

// P27.1: epochs far from all that there may be, of texts that compile and that do not.
func TestEpochsThatThereAreNot(t *testing.T) {
	texts := []string{"SELECT a FROM t", "SELECT b FROM u", "", "?", strings.Repeat(" ", api.MaxSource+1)}
	for _, epoch := range append(far(), -2, -1, 0, api.MaxEpochs+1, api.MaxEpochs+2, 31, 32, 64) {
		for _, text := range texts {
			begun(t, given{Catalog: tables(), Epoch: epoch, Text: text}, answer{Err: api.ErrArg})
		}
	}
}
