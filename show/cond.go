package show

import "calliper/api"

func (put writer) cond(l []api.Cond) { put.condNode(l, len(l)-1) }

func (put writer) condNode(l []api.Cond, node int) {
	switch n := l[node]; n.Kind {
	case api.CRel:
		put.expr(n.X)
		put(relation(n.Rel))
		put.expr(n.Y)
	case api.CNot:
		put("not")
		put.condPart(l, n.A)
	case api.CAnd:
		put.condPart(l, n.A)
		put("and")
		put.condPart(l, n.B)
	case api.COr:
		put.condPart(l, n.A)
		put("or")
		put.condPart(l, n.B)
	}
}

// condPart puts what `not`, `and`, `or` stand with.
func (put writer) condPart(l []api.Cond, node int) {
	if l[node].Kind == api.CRel {
		put.condNode(l, node)
		return
	}
	put("[")
	put.condNode(l, node)
	put("]")
}

// relation is a relation's sign; empty: there is no such relation.
func relation(rel int) string {
	switch rel {
	case api.REq:
		return "=="
	case api.RNe:
		return "!="
	case api.RLt:
		return "<"
	case api.RLe:
		return "<="
	case api.RGt:
		return ">"
	case api.RGe:
		return ">="
	}
	return ""
}
