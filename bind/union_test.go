package bind_test

import (
	"testing"

	"bowsprit/api"
)

// P12.1: selects of as many columns as the first one, of one more, of one less.
func TestUnionOfHowMany(t *testing.T) {
	comes(t, "SELECT a, b FROM t UNION ALL SELECT 1, 'x' FROM u", "0 get #0, #1 | 1 get 1, 'x' => a int, b text")
	comes(t, "SELECT * FROM t UNION ALL SELECT 1, 'x' FROM u UNION ALL SELECT * FROM t", "0 get #0, #1 | 1 get 1, 'x' | 0 get #0, #1 => a int, b text")
	fails(t, "SELECT a FROM t UNION ALL SELECT a, b FROM t", 16, api.ErrUnion)
	fails(t, "SELECT a, b FROM t UNION ALL SELECT a FROM t", 16, api.ErrUnion)
	fails(t, "SELECT * FROM t UNION ALL SELECT * FROM u", 16, api.ErrUnion)
	fails(t, "SELECT * FROM u UNION ALL SELECT * FROM t", 16, api.ErrUnion)
	fails(t, "SELECT 1 FROM t UNION ALL SELECT 1 FROM t UNION ALL SELECT 1, 1 FROM t", 26, api.ErrUnion)
	fails(t, "SELECT 1, 1 FROM t UNION ALL SELECT 1, 2 FROM t UNION ALL SELECT 1 FROM t", 26, api.ErrUnion)
	fails(t, "SELECT NULL FROM t UNION ALL SELECT NULL, NULL FROM t UNION ALL SELECT NULL, NULL FROM t", 16, api.ErrUnion)
	comes(t, "SELECT * FROM v JOIN v x ON TRUE UNION ALL SELECT * FROM v JOIN v x ON FALSE", "2 join 2 on TRUE get #0, #1, #2, #3, #4, #5, #6, #7 | 2 join 2 on FALSE get #0, #1, #2, #3, #4, #5, #6, #7 => c bool, d int, e text, b bool, c bool, d int, e text, b bool")
}

// P12.1: three selects of one column: of the same kind, of others, and of null in the first, in a later one, in all; the first kind that is not null is the column's.
func TestUnionOfKinds(t *testing.T) {
	c := tables(t, few)
	kinds := map[string]string{"NULL": "null", "TRUE": "bool", "1": "int", "'x'": "text"}
	for x, ofX := range kinds {
		isBound(t, c, says(t, "SELECT "+x+" FROM w"), "3 get "+x+" => - "+ofX)
		for y, ofY := range kinds {
			both, at := ofX, 0
			switch {
			case ofX == "null":
				both = ofY
			case ofY != "null" && ofX != ofY:
				at = 16
			}
			q := says(t, "SELECT "+x+" FROM w UNION ALL SELECT "+y+" FROM u")
			if at > 0 {
				isRefused(t, c, q, at, api.ErrUnion)
			} else {
				isBound(t, c, q, "3 get "+x+" | 1 get "+y+" => - "+both)
			}
			for z, ofZ := range kinds {
				q := says(t, "SELECT 5, "+x+" FROM w UNION ALL SELECT NULL, "+y+" FROM u UNION ALL SELECT 6, "+z+" FROM w")
				switch {
				case at > 0:
					isRefused(t, c, q, at, api.ErrUnion)
				case both == "null":
					isBound(t, c, q, "3 get 5, "+x+" | 1 get NULL, "+y+" | 3 get 6, "+z+" => - int, - "+ofZ)
				case ofZ != "null" && ofZ != both:
					isRefused(t, c, q, 26, api.ErrUnion)
				default:
					isBound(t, c, q, "3 get 5, "+x+" | 1 get NULL, "+y+" | 3 get 6, "+z+" => - int, - "+both)
				}
			}
		}
	}
	fails(t, "SELECT a, a FROM u UNION ALL SELECT 1, 'x' FROM u", 16, api.ErrUnion)
	fails(t, "SELECT a, a FROM u UNION ALL SELECT 'x', 1 FROM u", 16, api.ErrUnion)
	comes(t, "SELECT NULL, MIN(NULL) FROM t UNION ALL SELECT b, NULL FROM t UNION ALL SELECT NULL, c FROM v", "0 group MIN(NULL) get NULL, #0 | 0 get #1, NULL | 2 get NULL, #0 => - text, - bool")
}

// P12.1: keys by name: of the first select's items alone, by what each is called.
func TestKeysByName(t *testing.T) {
	comes(t, "SELECT a, b FROM t ORDER BY b, a DESC", "0 get #0, #1 => a int, b text by +1 -0")
	comes(t, "SELECT a, b FROM t ORDER BY b DESC, b ASC, b", "0 get #0, #1 => a int, b text by -1 +1 +1")
	comes(t, "SELECT a AS b, b AS a FROM t ORDER BY a", "0 get #0, #1 => b int, a text by +1")
	comes(t, "SELECT t.a, b FROM t ORDER BY a", "0 get #0, #1 => a int, b text by +0")
	comes(t, "SELECT SUM(a) AS s FROM t ORDER BY s DESC", "0 group SUM(#0) get #0 => s int by -0")
	comes(t, "SELECT * FROM v ORDER BY e, b", "2 get #0, #1, #2, #3 => c bool, d int, e text, b bool by +2 +3")
	comes(t, "SELECT a + 1, a FROM t ORDER BY a", "0 get (#0 + 1), #0 => - int, a int by +1")
	comes(t, "SELECT a FROM t UNION ALL SELECT w FROM w ORDER BY a", "0 get #0 | 3 get #0 => a int by +0")
	fails(t, "SELECT a FROM t UNION ALL SELECT w FROM w ORDER BY w", 90, api.ErrName)
	fails(t, "SELECT a AS x FROM t ORDER BY a", 90, api.ErrName)
	fails(t, "SELECT a FROM t ORDER BY b", 90, api.ErrName)
	fails(t, "SELECT a + 1 FROM t ORDER BY a", 90, api.ErrName)
	fails(t, "SELECT SUM(a) FROM t ORDER BY a", 90, api.ErrName)
	fails(t, "SELECT 1 FROM t ORDER BY t", 90, api.ErrName)
	fails(t, "SELECT * FROM t ORDER BY a, b, c", 90, api.ErrName)
	fails(t, "SELECT * FROM t x JOIN v ON TRUE ORDER BY b", 90, api.ErrTwice)
	fails(t, "SELECT * FROM t JOIN u ON TRUE ORDER BY a", 90, api.ErrTwice)
	fails(t, "SELECT t.a, u.a FROM t JOIN u ON TRUE ORDER BY a", 90, api.ErrTwice)
	fails(t, "SELECT a, b AS a FROM t ORDER BY a", 90, api.ErrTwice)
	fails(t, "SELECT 1 AS x, 2 AS x, 3 AS x FROM t ORDER BY x", 90, api.ErrTwice)
	fails(t, "SELECT a, a FROM t ORDER BY 1, a", 90, api.ErrTwice)
	comes(t, "SELECT a, b AS a FROM t ORDER BY 2, 1", "0 get #0, #1 => a int, a text by +1 +0")
	comes(t, "SELECT 1 AS x, 2 AS x, 3 AS y FROM t ORDER BY y", "0 get 1, 2, 3 => x int, x int, y int by +2")
}

// P12.1: keys by number: 0, each column, the last one and one more.
func TestKeysByNumber(t *testing.T) {
	comes(t, "SELECT a, b FROM t ORDER BY 1 DESC, 2", "0 get #0, #1 => a int, b text by -0 +1")
	comes(t, "SELECT a + 1, 2, 3 FROM t ORDER BY 3, 2, 1", "0 get (#0 + 1), 2, 3 => - int, - int, - int by +2 +1 +0")
	comes(t, "SELECT * FROM v JOIN v x ON TRUE JOIN v y ON TRUE UNION ALL SELECT * FROM v JOIN v x ON TRUE JOIN v y ON TRUE ORDER BY 12", "2 join 2 on TRUE join 2 on TRUE get #0, #1, #2, #3, #4, #5, #6, #7, #8, #9, #10, #11 | 2 join 2 on TRUE join 2 on TRUE get #0, #1, #2, #3, #4, #5, #6, #7, #8, #9, #10, #11 => c bool, d int, e text, b bool, c bool, d int, e text, b bool, c bool, d int, e text, b bool by +11")
	fails(t, "SELECT * FROM v JOIN v x ON TRUE JOIN v y ON TRUE ORDER BY 13", 90, api.ErrName)
	for _, n := range []string{"0", "3", "2147483647"} {
		fails(t, "SELECT a, b FROM t ORDER BY "+n, 90, api.ErrName)
		fails(t, "SELECT a, b FROM t ORDER BY 2, a DESC, "+n+" DESC", 90, api.ErrName)
	}
}

// P12.1: key by key, the first error.
func TestFirstKey(t *testing.T) {
	fails(t, "SELECT a, a FROM t ORDER BY x, a", 90, api.ErrName)
	fails(t, "SELECT a, a FROM t ORDER BY a, x", 90, api.ErrTwice)
	fails(t, "SELECT a, a FROM t ORDER BY a, 0", 90, api.ErrTwice)
	fails(t, "SELECT a, a FROM t ORDER BY 3, a", 90, api.ErrName)
}

// P12.1: what items are called: As, or the name alone, or nothing; and just those of the first select.
func TestCalled(t *testing.T) {
	comes(t, "SELECT a, t.a AS x, (a), -a, a IS NULL, a + 0 FROM t", "0 get #0, #0, #0, (- #0), (NULL? #0), (#0 + 0) => a int, x int, a int, - int, - bool, - int")
	comes(t, "SELECT NULL AS a, COUNT(*) AS b, b, MIN(b), 'b' AS c FROM t GROUP BY b", "0 group #1 ALL MIN(#1) get NULL, #1, #0, #2, 'b' => a null, b int, b text, - text, c text")
	comes(t, "SELECT 1 FROM t UNION ALL SELECT a AS x FROM t", "0 get 1 | 0 get #0 => - int")
}
