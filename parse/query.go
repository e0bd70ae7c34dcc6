package parse

import (
	"slices"

	"bowsprit/api"
)

func (r *reader) query() api.Query {
	q := api.Query{Limit: -1}
	q.Selects = more(r, []api.Select{r.selected()}, api.MaxSelects, r.united, "UNION")
	if r.take("ORDER") {
		r.need("BY")
		q.Keys = listed(r, api.MaxKeys, r.key)
	}
	if r.take("LIMIT") {
		q.Limit = r.number()
	}
	return q
}

// united reads a select behind another one.
func (r *reader) united() api.Select {
	r.need("UNION", "ALL")
	return r.selected()
}

func (r *reader) selected() api.Select {
	var s api.Select
	r.need("SELECT")
	s.Distinct = r.take("DISTINCT")
	s.Star = r.take("*")
	if !s.Star {
		s.Items = listed(r, api.MaxItems, r.item)
	}
	r.need("FROM")
	s.From = r.source()
	s.Joins = more(r, nil, api.MaxJoins, r.join, "LEFT", "JOIN")
	s.Where = r.clause("WHERE")
	if r.take("GROUP") {
		r.need("BY")
		s.Group = listed(r, api.MaxNames, r.name)
	}
	s.Having = r.clause("HAVING")
	return s
}

// clause reads an expr behind its word, if that one is there.
func (r *reader) clause(word string) api.Tree {
	if !r.take(word) {
		return api.Tree{}
	}
	return r.whole()
}

func (r *reader) item() api.Item {
	i := api.Item{Tree: r.whole()}
	if r.take("AS") {
		i.As = r.own()
	}
	return i
}

func (r *reader) source() api.Source {
	s := api.Source{Table: r.own()}
	if r.ahead().Kind == api.TkName {
		s.As = r.own()
	}
	return s
}

func (r *reader) join() api.Join {
	var j api.Join
	j.Left = r.take("LEFT")
	r.need("JOIN")
	j.Source = r.source()
	r.need("ON")
	j.On = r.whole()
	return j
}

func (r *reader) name() api.Name {
	n := r.own()
	if !r.take(".") {
		return api.Name{Name: n}
	}
	return api.Name{Table: n, Name: r.own()}
}

func (r *reader) key() api.Key {
	var k api.Key
	if r.ahead().Kind == api.TkName {
		k.Name = r.own()
	} else {
		k.Number = r.number()
	}
	if !r.take("ASC") {
		k.Desc = r.take("DESC")
	}
	return k
}

// number takes a number that has to be ahead, and not too great.
func (r *reader) number() int {
	t := r.ahead()
	if t.Kind != api.TkNumber || t.N > api.MaxNumber {
		r.fail(api.ErrParse)
		return 0
	}
	r.step()
	return int(t.N)
}

// more reads parts behind those that there are, as long as what begins one is ahead. If there are most of them already, that is where the text is wrong, whatever comes behind it.
func more[T any](r *reader, l []T, most int, part func() T, begins ...string) []T {
	for slices.Contains(begins, r.said()) {
		if len(l) == most {
			r.fail(api.ErrMany)
			return nil
		}
		l = append(l, part())
	}
	return l
}

// listed reads parts with a comma between each two.
func listed[T any](r *reader, most int, part func() T) []T {
	next := func() T {
		r.need(",")
		return part()
	}
	return more(r, []T{part()}, most, next, ",")
}
