package rules

import "calliper/api"

// Where expressions stand: this decides what may be in them.
const (
	inCode    = iota
	inClaim   // what is to hold: Requires, invariants, asserts
	inEnsures // what is to hold at the end: `old` and `result` may stand there too
)

func (k *checker) cond(l []api.Cond, where int) {
	for _, n := range l {
		k.expr(n.X, where)
		k.expr(n.Y, where)
	}
}

func (k *checker) expr(l []api.Expr, where int) {
	olds := withinOld(l)
	for i, n := range l {
		switch n.Kind {
		case api.EVar:
			k.tell(n.At, n.Name, k.scalar(n.Name))
		case api.EElem:
			k.tell(n.At, n.Name, k.array(n.Name))
			k.tell(n.At, n.Name, k.index(l, n, where))
		case api.EOld:
			k.tell(n.At, "", past(where == inEnsures && !olds[i]))
		case api.EResult:
			k.tell(n.At, "", past(where == inEnsures && k.f.T != 0))
		}
	}
}

// past: `old` or `result` may stand where it stands.
func past(may bool) error {
	if may {
		return nil
	}
	return broken(api.FOld)
}

// index: what is to hold speaks of elements by numbers alone, and of those that there are.
func (k *checker) index(l []api.Expr, n api.Expr, where int) error {
	if where == inCode {
		return nil
	}
	if !within(l, n.A) || l[n.A].Kind != api.ENum {
		return broken(api.FOld)
	}
	if x, ok := k.find(n.Name); ok && x.array && l[n.A].Num >= x.size {
		return broken(api.FSize)
	}
	return nil
}

// withinOld marks the nodes that stand within an `old`: kids stand ahead of their parents, so marks go down from the root in one pass.
func withinOld(l []api.Expr) []bool {
	marks := make([]bool, len(l))
	for i := len(l) - 1; i >= 0; i-- {
		if !marks[i] && l[i].Kind != api.EOld {
			continue
		}
		for _, kid := range [...]int{l[i].A, l[i].B} {
			if within(l, kid) {
				marks[kid] = true
			}
		}
	}
	return marks
}

// within tells whether there is such a place.
func within(l []api.Expr, at int) bool {
	return 0 <= at && at < len(l)
}

// loneName is the name of an expression that is one variable and no more.
func loneName(l []api.Expr) (string, bool) {
	if len(l) != 1 || l[0].Kind != api.EVar {
		return "", false
	}
	return l[0].Name, true
}
