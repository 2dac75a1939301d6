package rules

import (
	"calliper/api"
	"calliper/typ"
)

// Type is the type of the node at a place; 0: it has none.
func Type(l []api.Expr, at int, y api.Layout, result int) int {
	if !within(l, at) {
		return 0
	}
	r := reckoner{l: l, y: y, result: result, types: make([]int, len(l)), seen: make([]bool, len(l))}
	// Each node is reckoned once, kids first, on a stack of its own: so it ends soon, whatever kids a list names, its own parents among them.
	open := []int{at}
	r.seen[at] = true
	for len(open) > 0 {
		top := open[len(open)-1]
		if kid, ok := r.unseenKid(l[top]); ok {
			r.seen[kid] = true
			open = append(open, kid)
			continue
		}
		r.types[top] = r.node(l[top])
		open = open[:len(open)-1]
	}
	return r.types[at]
}

// reckoner finds the types of a list's nodes. The type of one that is not yet known is 0.
type reckoner struct {
	l      []api.Expr
	y      api.Layout
	result int
	types  []int
	seen   []bool
}

// deciding is the kids that a node's type hangs on; -1: none.
func deciding(n api.Expr) (a, b int) {
	a, b = -1, -1
	switch n.Kind {
	case api.EAdd, api.ESub, api.EMul, api.EDiv, api.EMod, api.EAnd, api.EOr, api.EXor:
		b = n.B
		fallthrough
	case api.EOld, api.ENeg, api.ECom, api.EShl, api.EShr:
		a = n.A
	}
	return a, b
}

func (r *reckoner) unseenKid(n api.Expr) (int, bool) {
	a, b := deciding(n)
	for _, kid := range [...]int{a, b} {
		if within(r.l, kid) && !r.seen[kid] {
			return kid, true
		}
	}
	return 0, false
}

// node is a node's type, by those of its kids.
func (r *reckoner) node(n api.Expr) int {
	a, b := deciding(n)
	switch n.Kind {
	case api.ENum, api.ECast:
		return n.T
	case api.EVar:
		return typeIn(r.y.Vars, n.Name)
	case api.EElem:
		return typeIn(r.y.Arrs, n.Name)
	case api.EOld:
		return r.kid(a)
	case api.EResult:
		return r.result
	case api.ENeg, api.ECom, api.EShl, api.EShr:
		return typ.Up(operand(r.kid(a)))
	case api.EAdd, api.ESub, api.EMul, api.EDiv, api.EMod, api.EAnd, api.EOr, api.EXor:
		return typ.Join(operand(r.kid(a)), operand(r.kid(b)))
	}
	return 0
}

// kid is the type of the node at a place; 0: there is no such place.
func (r *reckoner) kid(at int) int {
	if !within(r.l, at) {
		return 0
	}
	return r.types[at]
}

// operand is the type that an operand counts by.
func operand(t int) int {
	if t == 0 {
		return api.I32
	}
	return t
}

// typeIn is the type of the first of a name.
func typeIn(l []api.Bind, name string) int {
	for _, b := range l {
		if b.Name == name {
			return b.T
		}
	}
	return 0
}
