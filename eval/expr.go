package eval

import (
	"calliper/api"
	"calliper/arith"
	"calliper/typ"
)

// Times: what names have, and what they had.
const (
	now = iota
	before
	times
)

// A spot is a node's place, and the time that its names are asked at: what a node has hangs on both.
type spot struct{ at, time int }

// An answer is what Value tells.
type answer struct{ v, t, ub, where int }

// absent is the answer of what there is not.
func absent() answer {
	return answer{t: api.I32}
}

// A reckoner finds what a list's nodes have, each at each time at most once.
type reckoner struct {
	l       []api.Expr
	envs    [times]Env
	entered [times][]bool
	answers [times][]answer
}

func newReckoner(l []api.Expr, e Env) *reckoner {
	r := &reckoner{l: l, envs: [times]Env{now: e, before: e.past()}}
	for time := range times {
		r.entered[time] = make([]bool, len(l))
		r.answers[time] = make([]answer, len(l))
	}
	return r
}

// enter tells whether there is such a spot, and it was not entered till now.
func (r *reckoner) enter(s spot) bool {
	if s.at < 0 || s.at >= len(r.l) || r.entered[s.time][s.at] {
		return false
	}
	r.entered[s.time][s.at] = true
	// Till it is closed it counts as one that there is not: so even a node that is its own kid comes to an end.
	r.answers[s.time][s.at] = absent()
	return true
}

func (r *reckoner) told(s spot) answer {
	if s.at < 0 || s.at >= len(r.l) {
		return absent()
	}
	return r.answers[s.time][s.at]
}

// kids are what a node hangs on. A kid that its kind has not is one that there is not.
func (r *reckoner) kids(s spot) (a, b spot) {
	n := r.l[s.at]
	a, b = spot{-1, s.time}, spot{-1, s.time}
	switch n.Kind {
	case api.EOld:
		a = spot{n.A, before}
	case api.EAdd, api.ESub, api.EMul, api.EDiv, api.EMod, api.EAnd, api.EOr, api.EXor, api.EShl, api.EShr:
		b.at = n.B
		fallthrough
	case api.EElem, api.ENeg, api.ECom, api.ECast:
		a.at = n.A
	}
	return a, b
}

// openKid enters the first kid that was not entered till now.
func (r *reckoner) openKid(s spot) (spot, bool) {
	a, b := r.kids(s)
	if r.enter(a) {
		return a, true
	}
	return b, r.enter(b)
}

// close finds what a node has, once its kids are closed.
func (r *reckoner) close(s spot) {
	a, b := r.kids(s)
	left, right := r.told(a), r.told(b)
	own := node(r.l[s.at], r.envs[s.time], left, right)
	for _, kid := range [...]answer{left, right} {
		if kid.ub != api.UbNone {
			own = answer{t: own.t, ub: kid.ub, where: kid.where}
			break
		}
	}
	r.answers[s.time][s.at] = own
}

// node is what a node has, were its kids without undefined behaviour.
func node(n api.Expr, e Env, a, b answer) answer {
	switch n.Kind {
	case api.ENum:
		return answer{v: n.Num, t: n.T}
	case api.EVar, api.EElem:
		return named(n, e, a.v)
	case api.EOld:
		return a
	case api.EResult:
		return answer{v: e.Result, t: e.T}
	case api.ECast:
		return answer{v: typ.Wrap(n.T, a.v), t: n.T}
	}
	return operator(n, a, b)
}

// named is what a name's block has: at its index, of EElem, else at place 0.
func named(n api.Expr, e Env, index int) answer {
	b, ok := e.find(n.Name)
	if !ok {
		return absent()
	}
	at := 0
	if n.Kind == api.EElem {
		at = index
		if !hasPlace(b, at) {
			return answer{t: b.T, ub: api.UbIndex, where: n.At}
		}
	}
	// A block that is not there has noughts.
	v, _ := e.Mem.Get(b.Id, at)
	return answer{v: v, t: b.T}
}

// hasPlace goes by the Size that the name says, not by the block.
func hasPlace(b api.Bind, at int) bool {
	size := b.Size
	if size == 0 {
		size = 1
	}
	return 0 <= at && at < size
}

// operator is what an operator makes of its kids; of no operator there is nothing.
func operator(n api.Expr, a, b answer) answer {
	t, right := typ.Up(operand(a.t)), b.v
	switch n.Kind {
	case api.EAdd, api.ESub, api.EMul, api.EDiv, api.EMod, api.EAnd, api.EOr, api.EXor:
		t = meet(a, b)
		// What is shifted by stays as it is; all other right kids are of the node's type.
		right = typ.Wrap(t, right)
		fallthrough
	case api.ENeg, api.ECom, api.EShl, api.EShr:
		v, ub := arith.Do(n.Kind, t, typ.Wrap(t, a.v), right)
		if ub != api.UbNone {
			return answer{t: t, ub: ub, where: n.At}
		}
		return answer{v: v, t: t}
	}
	return absent()
}

// meet is the type in which two answers meet.
func meet(a, b answer) int {
	return typ.Join(operand(a.t), operand(b.t))
}

// operand is the type that an operand counts by.
func operand(t int) int {
	if t == 0 {
		return api.I32
	}
	return t
}
