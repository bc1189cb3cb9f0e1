package parse

import "commissary/api"

// noLimit is the limit of a query that tells all its rows.
const noLimit = -1

func (r *reader) query() api.Query {
	q := api.Query{Parts: list(r, r.part, "UNION", "ALL"), Limit: noLimit}
	if r.takeAll("ORDER", "BY") {
		q.Order = list(r, r.key, ",")
	}
	if r.take("LIMIT") {
		q.Limit = r.mustKind(api.TokNum).N
	}
	return q
}

// part is the grammar's select.
func (r *reader) part() api.Select {
	r.must("SELECT")
	s := api.Select{Distinct: r.take("DISTINCT")}
	s.Items = list(r, r.item, ",")
	r.must("FROM")
	s.From = r.sources()
	if r.take("WHERE") {
		s.Where = r.or()
	}
	if r.takeAll("GROUP", "BY") {
		s.Group = list(r, r.column, ",")
	}
	return s
}

func (r *reader) item() api.Item {
	if r.take("*") {
		return api.Item{Star: true}
	}
	i := api.Item{E: r.or()}
	if r.take("AS") {
		i.As = r.name()
	}
	return i
}

func (r *reader) sources() []api.Source {
	l := []api.Source{r.source()}
	for kind := r.join(); kind != api.JoinFirst; kind = r.join() {
		s := r.source()
		s.Join = kind
		r.must("ON")
		s.On = r.or()
		l = append(l, s)
	}
	return l
}

func (r *reader) source() api.Source {
	table := r.name()
	s := api.Source{Table: table, As: table}
	if r.take("AS") {
		s.As = r.name()
	}
	return s
}

// join is the kind of the join that stands next; JoinFirst, if none does.
func (r *reader) join() int {
	switch {
	case r.take("JOIN"):
		return api.JoinInner
	case r.takeAll("LEFT", "JOIN"):
		return api.JoinLeft
	case r.takeAll("SEMI", "JOIN"):
		return api.JoinSemi
	case r.takeAll("ANTI", "JOIN"):
		return api.JoinAnti
	}
	return api.JoinFirst
}

func (r *reader) key() api.Key {
	name := r.name()
	return api.Key{Name: name, Down: r.take("DESC")}
}
