package bind_test

import (
	"testing"

	"bowsprit/api"
)

// P12.1: sources are called As, or Table, and not both.
func TestSources(t *testing.T) {
	comes(t, "SELECT t.a FROM t", "0 get #0 => a int")
	comes(t, "SELECT x.a FROM t x", "0 get #0 => a int")
	fails(t, "SELECT t.a FROM t x", 4, api.ErrName)
	fails(t, "SELECT x.a FROM t", 4, api.ErrName)
	comes(t, "SELECT u.a, t.a FROM t u JOIN u t ON TRUE", "0 join 1 on TRUE get #0, #2 => a int, a int")
	comes(t, "SELECT x.a, t.a, u.a FROM t x JOIN t ON TRUE JOIN t u ON TRUE", "0 join 0 on TRUE join 0 on TRUE get #0, #2, #4 => a int, a int, a int")
	comes(t, "SELECT w.w, w FROM w", "3 get #0, #0 => w int, w int")
	comes(t, "SELECT d.d, d, c FROM v d", "2 get #1, #1, #0 => d int, d int, c bool")
	fails(t, "SELECT a FROM x", 0, api.ErrTables)
	fails(t, "SELECT a FROM x t", 0, api.ErrTables)
	fails(t, "SELECT a FROM a", 0, api.ErrTables)
	fails(t, "SELECT a FROM t JOIN x ON TRUE", 1, api.ErrTables)
	fails(t, "SELECT a FROM t x JOIN x ON TRUE", 1, api.ErrTables)
	fails(t, "SELECT a FROM t JOIN v ON TRUE LEFT JOIN x u ON TRUE", 1, api.ErrTables)
}

// P12.1: two sources that are called the same, however it comes.
func TestAliases(t *testing.T) {
	for _, text := range []string{"FROM t JOIN t ON TRUE", "FROM t JOIN u t ON TRUE", "FROM t x JOIN u x ON TRUE", "FROM u t JOIN t ON TRUE", "FROM t JOIN u ON TRUE JOIN t ON TRUE", "FROM t JOIN u ON TRUE LEFT JOIN u ON TRUE", "FROM t x JOIN u ON TRUE JOIN v x ON TRUE", "FROM w x JOIN v w ON TRUE JOIN w ON TRUE"} {
		fails(t, "SELECT 1 "+text, 1, api.ErrAlias)
		fails(t, "SELECT zz "+text+" WHERE zz GROUP BY zz HAVING zz", 1, api.ErrAlias)
	}
	comes(t, "SELECT 1 FROM t x JOIN t ON TRUE", "0 join 0 on TRUE get 1 => - int")
	comes(t, "SELECT 1 FROM t JOIN t x ON TRUE JOIN t y ON TRUE", "0 join 0 on TRUE join 0 on TRUE get 1 => - int")
	comes(t, "SELECT 1 FROM t UNION ALL SELECT 1 FROM t", "0 get 1 | 0 get 1 => - int")
}

// P12.1: a name that names none, one, two columns; with a Table and without; at each place where names stand.
func TestNames(t *testing.T) {
	held := func(name string, want api.Errno, column string) {
		t.Helper()
		for text, at := range map[string]int{
			"SELECT 1 FROM t JOIN v ON TRUE JOIN u ON " + name + " IS NULL":                    1,
			"SELECT 1 FROM t JOIN v ON TRUE JOIN u ON TRUE WHERE 1 = 1 OR " + name + " = NULL": 2,
			"SELECT 1 FROM t JOIN v ON TRUE JOIN u ON TRUE GROUP BY " + name:                   3,
			"SELECT " + name + " FROM t JOIN v ON TRUE JOIN u ON TRUE":                         4,
			"SELECT COUNT(" + name + ") FROM t JOIN v ON TRUE JOIN u ON TRUE":                  4,
			"SELECT MIN(" + name + ") FROM t JOIN v ON TRUE JOIN u ON TRUE GROUP BY c, d":      4,
			"SELECT 1 FROM t JOIN v ON TRUE JOIN u ON TRUE HAVING MAX(" + name + ") IS NULL":   5,
		} {
			if want != api.OK {
				fails(t, text, at, want)
			}
		}
		if want == api.OK {
			comes(t, "SELECT 1 FROM t JOIN v ON TRUE JOIN u ON "+name+" IS NULL WHERE "+name+" IS NULL", "0 join 2 on TRUE join 1 on (NULL? "+column+") where (NULL? "+column+") get 1 => - int")
			comes(t, "SELECT MIN("+name+") IS NULL FROM t JOIN v ON TRUE JOIN u ON TRUE GROUP BY "+name+" HAVING "+name+" IS NULL", "0 join 2 on TRUE join 1 on TRUE group "+column+" MIN("+column+") having (NULL? #0) get (NULL? #1) => - bool")
		}
	}
	held("c", api.OK, "#2")
	held("d", api.OK, "#3")
	held("e", api.OK, "#4")
	held("t.a", api.OK, "#0")
	held("t.b", api.OK, "#1")
	held("v.c", api.OK, "#2")
	held("v.b", api.OK, "#5")
	held("u.a", api.OK, "#6")
	for _, name := range []string{"f", "t", "v", "t.c", "u.b", "w.w", "w", "x.a", "a.a", "c.v"} {
		held(name, api.ErrName, "")
	}
	held("a", api.ErrTwice, "")
	held("b", api.ErrTwice, "")
}

// P12.1: On is over the sources so far alone: what comes behind is not there yet, and makes no name name two.
func TestOnOverSourcesSoFar(t *testing.T) {
	comes(t, "SELECT 1 FROM v JOIN t ON a = 1 JOIN u ON t.a = u.a", "2 join 0 on (#4 = 1) join 1 on (#4 = #6) get 1 => - int")
	fails(t, "SELECT 1 FROM v JOIN t ON u.a = 1 JOIN u ON TRUE", 1, api.ErrName)
	fails(t, "SELECT 1 FROM v JOIN w ON a = 1 JOIN u ON TRUE", 1, api.ErrName)
	fails(t, "SELECT 1 FROM v JOIN t ON TRUE JOIN u ON a = 1", 1, api.ErrTwice)
	fails(t, "SELECT 1 FROM v JOIN t ON b IS NULL JOIN u ON TRUE", 1, api.ErrTwice)
	comes(t, "SELECT 1 FROM u JOIN w ON a = w", "1 join 3 on (#0 = #1) get 1 => - int")
	comes(t, "SELECT 1 FROM u JOIN u x ON x.a = u.a LEFT JOIN u y ON y.a = x.a AND y.a = u.a", "1 join 1 on (#1 = #0) left 1 on ((#2 = #1) AND (#2 = #0)) get 1 => - int")
}

// P12.1: names of one select name nothing in another one.
func TestEachSelectIsItsOwn(t *testing.T) {
	comes(t, "SELECT a FROM t UNION ALL SELECT a FROM u UNION ALL SELECT w AS a FROM w", "0 get #0 | 1 get #0 | 3 get #0 => a int")
	comes(t, "SELECT b, SUM(a) FROM t GROUP BY b UNION ALL SELECT b, a FROM t", "0 group #1 SUM(#0) get #0, #1 | 0 get #1, #0 => b text, - int")
	fails(t, "SELECT x.a FROM t x UNION ALL SELECT x.a FROM t", 14, api.ErrName)
	fails(t, "SELECT b FROM t UNION ALL SELECT b FROM u", 14, api.ErrName)
	fails(t, "SELECT a FROM t GROUP BY a UNION ALL SELECT a FROM t GROUP BY b", 14, api.ErrGroup)
	fails(t, "SELECT a FROM t GROUP BY a UNION ALL SELECT a FROM t HAVING a = 1", 14, api.ErrGroup)
}
