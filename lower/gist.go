package lower

import "calliper/api"

const (
	// most is how many bytes the answer of a call may have.
	most = 1<<31 - 1
	// full is more than any answer may have, of whatever.
	full = 1 << 32
	// What an instruction takes, and a node of its expressions.
	instrBytes, exprBytes = 384, 64
)

// A gist is what a node of a condition comes to. Nodes that put nothing (a CNot, one with a kid that there is not) only turn
// the ways of the one node in them that does: its core. So however many of them stand in one another, they cost nothing
// where the core is put. The zero gist is that of what there is not: it puts nothing, and does not hold.
type gist struct {
	core      int  // a relation, or a node whose kids both put some
	relations int  // how many are put; none: there is no core
	bytes     int  // what they take
	yes, no   exit // where the core goes on
	first     exit // where the node begins
}

// An exit is one of a node's own ways, or where its core begins.
type exit uint8

const (
	toNo exit = iota
	toYes
	toCore
)

func choose[T any](e exit, yes, no, core T) T {
	switch e {
	case toYes:
		return yes
	case toCore:
		return core
	}
	return no
}

// turned is the gist of a node that puts nothing but this one, with other ways than its own.
func (g gist) turned(yes, no exit) gist {
	g.yes, g.no = choose(g.yes, yes, no, toCore), choose(g.no, yes, no, toCore)
	g.first = choose(g.first, yes, no, toCore)
	return g
}

// A finder tells the gists of a list's nodes, each once, those of kids ahead.
type finder struct {
	l       []api.Cond
	entered []bool
	gists   []gist
}

// find tells the gists of all nodes that hang on the last one. A node within itself counts there as one that there is not.
func find(l []api.Cond) *finder {
	r := &finder{l: l, entered: make([]bool, len(l)), gists: make([]gist, len(l))}
	var open []int
	if root := len(l) - 1; r.enter(root) {
		open = append(open, root)
	}
	for len(open) > 0 {
		at := open[len(open)-1]
		a, b := kids(&l[at])
		switch {
		case r.enter(a):
			open = append(open, a)
		case r.enter(b):
			open = append(open, b)
		default:
			r.gists[at] = r.close(at)
			open = open[:len(open)-1]
		}
	}
	return r
}

// enter tells whether there is such a node, and it was not entered till now.
func (r *finder) enter(at int) bool {
	if !within(at, len(r.l)) || r.entered[at] {
		return false
	}
	r.entered[at] = true
	return true
}

func (r *finder) of(at int) gist {
	if !within(at, len(r.gists)) {
		return gist{}
	}
	return r.gists[at]
}

// close tells a node's gist, those of its kids being known.
func (r *finder) close(at int) gist {
	n := &r.l[at]
	g := gist{core: at, yes: toYes, no: toNo, first: toCore}
	switch n.Kind {
	case api.CRel:
		g.relations, g.bytes = 1, instrBytes+exprBytes*(len(n.X)+len(n.Y))
		return g
	case api.CNot:
		return r.of(n.A).turned(toNo, toYes)
	case api.CAnd, api.COr:
		return g.both(r.of(n.A), r.of(n.B), n.Kind)
	}
	return gist{}
}

// both is the gist of a node of two kids.
func (g gist) both(a, b gist, kind int) gist {
	yes, no := toYes, b.first
	if kind == api.CAnd {
		yes, no = b.first, toNo
	}
	switch {
	case a.relations == 0:
		b.first = choose(a.first, yes, no, toCore)
		return b
	case b.relations == 0:
		return a.turned(yes, no)
	}
	g.relations, g.bytes = min(a.relations+b.relations, full), min(a.bytes+b.bytes, full)
	return g
}

// kids are the places of a node's kids, as its kind has them.
func kids(n *api.Cond) (a, b int) {
	switch n.Kind {
	case api.CNot:
		return n.A, none
	case api.CAnd, api.COr:
		return n.A, n.B
	}
	return none, none
}
