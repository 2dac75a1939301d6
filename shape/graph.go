package shape

import "math/bits"

// A graph has of each node those that it leads to.
type graph []set

// read tells a graph, or false of one of too many nodes.
func read(g [][]int) (graph, bool) {
	if len(g) > most {
		return nil, false
	}
	edges := make(graph, len(g))
	for at, to := range g {
		for _, next := range to {
			if within(next, len(g)) {
				edges[at].add(next)
			}
		}
	}
	return edges, true
}

// within tells whether of n nodes there is this one.
func within(at, n int) bool {
	return at >= 0 && at < n
}

// reach is the set of the nodes that ways from one lead to, of the ways that go by none of some others.
func (g graph) reach(from int, but set) set {
	var reached set
	if !within(from, len(g)) {
		return reached
	}
	reached.add(from)
	looked := but
change:
	for {
		for i := range reached {
			fresh := reached[i] &^ looked[i]
			if fresh == 0 {
				continue
			}
			at := i*part + bits.TrailingZeros64(fresh)
			looked.add(at)
			reached.join(&g[at])
			continue change
		}
		return reached.less(but)
	}
}

// dominators are of each node that is reached those that all ways to it go by, with itself; of others none.
func (g graph) dominators(from int) []set {
	by := make([]set, len(g))
	reached := g.reach(from, set{})
	for at := range reached.all {
		var but set
		but.add(at)
		for lost := range reached.less(g.reach(from, but)).all {
			by[lost].add(at)
		}
	}
	return by
}

// last tells of each node the last one but itself that all ways to it go by; none, where there is no such.
// Those that all ways to a node go by stand in a row: all ways to one of them go by those that stand ahead of it.
func last(by []set) []int {
	idom, deep := make([]int, len(by)), make([]int, len(by))
	for at := range by {
		idom[at], deep[at] = none, by[at].count()
	}
	for at := range by {
		for ahead := range by[at].all {
			if deep[ahead] == deep[at]-1 {
				idom[at] = ahead
			}
		}
	}
	return idom
}

// parted has of the nodes that are reached the edges on, and the nodes to which the others lead: those lead back, to nodes
// that all ways to where they begin go by.
func (g graph) parted(from int) (on graph, heads set) {
	on = make(graph, len(g))
	for at, by := range g.dominators(from) {
		if by == (set{}) {
			continue
		}
		back := g[at].meet(by)
		heads.join(&back)
		on[at] = g[at].less(back)
	}
	return on, heads
}

// order tells nodes that are reached, each ahead of those that edges on lead to from it: always the least of those that could
// come next. And whether these are all that are reached: others go in rings of such edges.
func (g graph) order(from int) (row []int, whole bool) {
	on, _ := g.parted(from)
	reached := g.reach(from, set{})
	waits, ready := make([]int, len(g)), reached
	for _, edges := range on {
		for to := range edges.all {
			waits[to]++
			ready.drop(to)
		}
	}
change:
	for {
		for at := range ready.all {
			ready.drop(at)
			row = append(row, at)
			for to := range on[at].all {
				if waits[to]--; waits[to] == 0 {
					ready.add(to)
				}
			}
			continue change
		}
		return row, len(row) == reached.count()
	}
}
