package eval

import (
	"calliper/api"
	"calliper/arith"
	"calliper/typ"
)

// A finding is what Test tells.
type finding struct {
	is        bool
	ub, where int
}

// A judge finds which of a list's conditions hold, each at most once, and none that nothing hangs on.
type judge struct {
	l        []api.Cond
	e        Env
	entered  []bool
	findings []finding
}

func newJudge(l []api.Cond, e Env) *judge {
	return &judge{l: l, e: e, entered: make([]bool, len(l)), findings: make([]finding, len(l))}
}

// enter tells whether there is such a place, and it was not entered till now. Till it is closed it does not hold.
func (j *judge) enter(at int) bool {
	if at < 0 || at >= len(j.l) || j.entered[at] {
		return false
	}
	j.entered[at] = true
	return true
}

func (j *judge) told(at int) finding {
	if at < 0 || at >= len(j.l) {
		return finding{}
	}
	return j.findings[at]
}

// openKid enters the first kid that was not entered till now, and that a node hangs on.
func (j *judge) openKid(at int) (int, bool) {
	n := j.l[at]
	switch n.Kind {
	case api.CAnd, api.COr:
		if j.enter(n.A) {
			return n.A, true
		}
		if j.undecided(n) {
			return n.B, j.enter(n.B)
		}
	case api.CNot:
		return n.A, j.enter(n.A)
	}
	return 0, false
}

// undecided: A of a CAnd, of a COr leaves it to B.
func (j *judge) undecided(n api.Cond) bool {
	a := j.told(n.A)
	return a.ub == api.UbNone && a.is == (n.Kind == api.CAnd)
}

// close finds whether a node holds, once the kids that it hangs on are closed.
func (j *judge) close(at int) {
	n := j.l[at]
	f := finding{}
	switch n.Kind {
	case api.CRel:
		f = relation(n, j.e)
	case api.CAnd, api.COr:
		if j.undecided(n) {
			f = j.told(n.B)
			break
		}
		f = j.told(n.A)
	case api.CNot:
		f = j.told(n.A)
		f.is = f.ub == api.UbNone && !f.is
	}
	j.findings[at] = f
}

// relation holds the roots of X and Y against one another.
func relation(n api.Cond, e Env) finding {
	x, y := whole(n.X, e), whole(n.Y, e)
	for _, side := range [...]answer{x, y} {
		if side.ub != api.UbNone {
			return finding{ub: side.ub, where: side.where}
		}
	}
	t := meet(x, y)
	return finding{is: arith.Rel(n.Rel, typ.Wrap(t, x.v), typ.Wrap(t, y.v))}
}

// whole is what an expression has at its root.
func whole(l []api.Expr, e Env) answer {
	v, t, ub, where := Value(l, len(l)-1, e)
	return answer{v, t, ub, where}
}
