package lower

import (
	"slices"

	"calliper/api"
)

// A side is a left kid that waits for its right one to be put.
type side struct {
	g       gist
	yes, no int
	both    bool // of a CAnd: the right one counts only where it holds
}

// cond puts a condition's relations, and tells where they begin: it goes on at yes if it holds, at no if it does not.
// What there is not does not hold. Nor does what is more than an answer may have: of nodes with several parents one relation
// is put once for each way that leads to it, and soon nothing would hold them all.
func (b *builder) cond(l []api.Cond, yes, no int) int {
	r := find(l)
	g := r.of(len(l) - 1)
	if g.bytes > b.left {
		return no
	}
	b.left -= g.bytes
	b.l = slices.Grow(b.l, g.relations)
	var left []side
	for {
		to := choose(g.first, yes, no, none)
		if g.relations > 0 {
			if g.first != toCore {
				// It does not begin where its core does: what there is not waits in the core's stead, and goes on there.
				left = append(left, side{no: to, both: true})
			}
			yes, no = choose(g.yes, yes, no, none), choose(g.no, yes, no, none)
			n := &l[g.core]
			if n.Kind != api.CRel {
				left = append(left, side{r.of(n.A), yes, no, n.Kind == api.CAnd})
				g = r.of(n.B)
				continue
			}
			to = b.put(api.Instr{Kind: api.IIf, At: n.At, Rel: n.Rel, X: slices.Clone(n.X), Y: slices.Clone(n.Y), Next: yes, Else: no})
		}
		if len(left) == 0 {
			return to
		}
		last := left[len(left)-1]
		left = left[:len(left)-1]
		g, yes, no = last.begin(to)
	}
}

// begin tells a left kid, and where it goes on now that its right one begins at right.
func (s side) begin(right int) (g gist, yes, no int) {
	if s.both {
		return s.g, right, s.no
	}
	return s.g, s.yes, right
}
