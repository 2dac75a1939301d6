package parse

import "calliper/api"

// cond reads a condition into a list of its own.
func (r *reader) cond() []api.Cond {
	var l []api.Cond
	r.either(&l)
	return l
}

// either reads what `or` joins, and tells the root's place in the list.
func (r *reader) either(l *[]api.Cond) int {
	left := r.both(l)
	for r.is("or") {
		at := r.next().At
		right := r.both(l)
		left = addCond(l, api.Cond{Kind: api.COr, A: left, B: right, At: at})
	}
	return left
}

// both reads what `and` joins.
func (r *reader) both(l *[]api.Cond) int {
	left := r.one(l)
	for r.is("and") {
		at := r.next().At
		right := r.one(l)
		left = addCond(l, api.Cond{Kind: api.CAnd, A: left, B: right, At: at})
	}
	return left
}

func (r *reader) one(l *[]api.Cond) int {
	switch {
	case r.is("not"):
		at := r.open("not")
		kid := r.one(l)
		r.close()
		return addCond(l, api.Cond{Kind: api.CNot, A: kid, B: -1, At: at})
	case r.is("["):
		r.open("[")
		root := r.either(l)
		r.take("]")
		r.close()
		return root
	}
	return addCond(l, r.compared())
}

// compared reads two expressions and the relation between them.
func (r *reader) compared() api.Cond {
	n := api.Cond{Kind: api.CRel, A: -1, B: -1}
	n.X = r.expr()
	n.Rel = relation(r.peek().Text)
	if n.Rel == 0 {
		r.refuse()
	}
	n.At = r.next().At
	n.Y = r.expr()
	return n
}

// relation is the relation of a sign; 0: none.
func relation(sign string) int {
	switch sign {
	case "==":
		return api.REq
	case "!=":
		return api.RNe
	case "<":
		return api.RLt
	case "<=":
		return api.RLe
	case ">":
		return api.RGt
	case ">=":
		return api.RGe
	}
	return 0
}

// addCond puts a node behind its kids, and tells its place.
func addCond(l *[]api.Cond, n api.Cond) int {
	*l = append(*l, n)
	return len(*l) - 1
}
