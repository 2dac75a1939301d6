package show

import (
	"slices"

	"calliper/api"
)

// nest is how deep the text of a node is within itself: shown as Print writes it, least with no brackets but those that it cannot do without. level is the node's own.
type nest struct {
	level int
	shown int
	least int
}

// nestOf is the nest of an expression's root; false: layer 3 makes no such list.
func nestOf(l []api.Expr) (nest, bool) { return fold(l, exprKids, exprNest) }

// condNestOf is likewise that of a condition.
func condNestOf(l []api.Cond) (nest, bool) { return fold(l, condKids, condNest) }

// fold works out a value of each node from those of its kids, and tells the root's; false: a kid is not where post order puts it, nodes are left over, or of one there is no value.
func fold[N, V any](l []N, kids func(n N) []int, up func(n N, kids []V) (V, bool)) (root V, ok bool) {
	// Of the nodes that are no kids as yet.
	var places []int
	var values []V
	for i, n := range l {
		own := kids(n)
		from := len(places) - len(own)
		if from < 0 || !slices.Equal(places[from:], own) {
			return root, false
		}
		v, fits := up(n, values[from:])
		if !fits {
			return root, false
		}
		places = append(places[:from], i)
		values = append(values[:from], v)
	}
	if len(values) != 1 {
		return root, false
	}
	return values[0], true
}

// held is how deep an operand is, where what binds looser than level is put in brackets.
func held(depth, own, level int) int {
	if own < level {
		return depth + 1
	}
	return depth
}

func exprKids(n api.Expr) []int {
	switch n.Kind {
	case api.ENum, api.EVar, api.EResult:
		return nil
	case api.EElem, api.EOld, api.ECast, api.ENeg, api.ECom:
		return []int{n.A}
	}
	return []int{n.A, n.B}
}

func exprNest(n api.Expr, kids []nest) (nest, bool) {
	if !isExprNode(n) {
		return nest{}, false
	}
	_, level := operator(n.Kind)
	if len(kids) == 0 {
		return nest{level: level}, true
	}
	a := kids[0]
	switch level {
	case levelPlain:
		return nest{level, 1 + a.shown, 1 + a.least}, true
	case levelSign:
		return nest{level, 1 + held(a.shown, a.level, levelPlain), 1 + held(a.least, a.level, levelSign)}, true
	}
	b := kids[1]
	return nest{
		level: level,
		shown: max(held(a.shown, a.level, levelPlain), held(b.shown, b.level, levelPlain)),
		// From the left: what stands on the right of an operator must bind tighter than it.
		least: max(held(a.least, a.level, level), held(b.least, b.level, level+1)),
	}, true
}

// isExprNode tells whether a node has what its kind has, and nothing else; whether its kids are where it says is not looked at.
func isExprNode(n api.Expr) bool {
	want := api.Expr{Kind: n.Kind, A: -1, B: -1, At: n.At}
	ok := true
	switch n.Kind {
	case api.ENum:
		want.Num, want.T = n.Num, n.T
		ok = isNumber(n.Num, n.T)
	case api.EVar:
		want.Name = n.Name
		ok = isName(n.Name)
	case api.EElem:
		want.Name, want.A = n.Name, n.A
		ok = isName(n.Name)
	case api.EResult:
	case api.EOld, api.ENeg, api.ECom:
		want.A = n.A
	case api.ECast:
		want.T, want.A = n.T, n.A
		ok = isType(n.T)
	default:
		want.A, want.B = n.A, n.B
		sign, _ := operator(n.Kind)
		ok = sign != ""
	}
	return ok && n == want
}

func condKids(n api.Cond) []int {
	switch n.Kind {
	case api.CRel:
		return nil
	case api.CNot:
		return []int{n.A}
	}
	return []int{n.A, n.B}
}

// condNest leaves least at nought: nobody asks for it.
func condNest(n api.Cond, kids []nest) (nest, bool) {
	if n.Kind == api.CRel {
		return relNest(n)
	}
	if n.Rel != 0 || len(n.X) > 0 || len(n.Y) > 0 {
		return nest{}, false
	}
	shown := 0
	for _, k := range kids {
		shown = max(shown, held(k.shown, k.level, levelPlain))
	}
	switch n.Kind {
	case api.CNot:
		return nest{level: levelSign, shown: 1 + shown}, n.B == -1
	case api.CAnd, api.COr:
		return nest{level: levelBits, shown: shown}, true
	}
	return nest{}, false
}

func relNest(n api.Cond) (nest, bool) {
	x, okX := nestOf(n.X)
	y, okY := nestOf(n.Y)
	ok := okX && okY && relation(n.Rel) != "" && n.A == -1 && n.B == -1
	return nest{level: levelPlain, shown: max(x.shown, y.shown)}, ok
}
