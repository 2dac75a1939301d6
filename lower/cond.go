package lower

import (
	"slices"

	"calliper/api"
)

const (
	// spare is how many nodes may be put once more than they stand in their lists, in all of a call.
	spare = 1 << 16
	// full is more than any list that is handed in can hold.
	full = 1 << 40
)

// A side is a left kid that waits for its right one to be put.
type side struct {
	at, yes, no int
	both        bool // of a CAnd: the right one counts only where it holds
}

// cond puts a condition's relations, and tells where they begin: it goes on at yes if it holds, at no if it does not.
// What there is not does not hold.
func (b *builder) cond(l []api.Cond, yes, no int) int {
	at := len(l) - 1
	if !b.afford(l) {
		return no
	}
	var left []side
	for {
		to := no
		switch n := nodeOf(l, at); n.Kind {
		case api.CNot:
			at, yes, no = ahead(n.A, at), no, yes
			continue
		case api.CAnd, api.COr:
			left = append(left, side{ahead(n.A, at), yes, no, n.Kind == api.CAnd})
			at = ahead(n.B, at)
			continue
		case api.CRel:
			to = b.put(api.Instr{Kind: api.IIf, At: n.At, Rel: n.Rel, X: slices.Clone(n.X), Y: slices.Clone(n.Y), Next: yes, Else: no})
		}
		if len(left) == 0 {
			return to
		}
		last := left[len(left)-1]
		left = left[:len(left)-1]
		at, yes, no = last.begin(to)
	}
}

// begin tells where a left kid stands, and where it goes on now that its right one begins at right.
func (s side) begin(right int) (at, yes, no int) {
	if s.both {
		return s.at, right, s.no
	}
	return s.at, s.yes, right
}

// nodeOf is a list's node, of no kind where there is none.
func nodeOf(l []api.Cond, at int) api.Cond {
	if !within(at, len(l)) {
		return api.Cond{}
	}
	return l[at]
}

// ahead is a kid's place; only ahead of its parent there are kids.
func ahead(kid, parent int) int {
	if !within(kid, parent) {
		return none
	}
	return kid
}

// afford tells whether a condition's relations may be put. A tree's may; but in a list that is none, nodes have several
// parents, so that one relation is to be put once for each way that leads to it, and soon nothing would hold them all.
func (b *builder) afford(l []api.Cond) bool {
	all, below, sizes := 0, 0, make([]int, len(l))
	for at, n := range l {
		own := 1 + len(n.X) + len(n.Y)
		all += own
		for _, kid := range kids(n) {
			if within(kid, at) {
				own += sizes[kid]
			}
		}
		below = min(own, full)
		sizes[at] = below
	}
	more := below - all
	if more > b.spare {
		return false
	}
	b.spare -= more
	return true
}

// kids are the places of a node's kids, as its kind has them.
func kids(n api.Cond) [2]int {
	switch n.Kind {
	case api.CNot:
		return [...]int{n.A, none}
	case api.CAnd, api.COr:
		return [...]int{n.A, n.B}
	}
	return [...]int{none, none}
}
