package shape

import (
	"slices"
	"testing"
)

// A second reckoning: it goes all ways that go by no node twice. (Each other way goes by all the nodes of one of these.)

func ways(g [][]int, from int, tell func(way []int)) {
	var on func(way []int)
	on = func(way []int) {
		tell(way)
		for _, to := range g[way[len(way)-1]] {
			if to >= 0 && to < len(g) && !slices.Contains(way, to) {
				on(append(way, to))
			}
		}
	}
	if from >= 0 && from < len(g) {
		on(append(make([]int, 0, len(g)), from))
	}
}

// each tells of each node one way to it, and which nodes are on all of its ways.
func each(g [][]int, from int) (one [][]int, common [][]bool) {
	one, common = make([][]int, len(g)), make([][]bool, len(g))
	ways(g, from, func(way []int) {
		to := way[len(way)-1]
		if one[to] == nil {
			one[to], common[to] = slices.Clone(way), make([]bool, len(g))
			for _, at := range way {
				common[to][at] = true
			}
		}
		for at, is := range common[to] {
			common[to][at] = is && slices.Contains(way, at)
		}
	})
	return one, common
}

// closed tells from which node ways of one edge or more lead to which.
func closed(edges [][]bool) [][]bool {
	c := make([][]bool, len(edges))
	for a := range edges {
		c[a] = slices.Clone(edges[a])
	}
	for by := range c {
		for a := range c {
			for b := range c {
				c[a][b] = c[a][b] || c[a][by] && c[by][b]
			}
		}
	}
	return c
}

// secondAnswer is what the chapter's words say of a graph.
func secondAnswer(g [][]int, from int) answer {
	one, common := each(g, from)
	a := answer{reach: make([]bool, len(g)), idom: make([]int, len(g)), reducible: true}
	on := make([][]bool, len(g))
	heads := make([]bool, len(g))
	for at := range g {
		a.reach[at], a.idom[at], on[at] = one[at] != nil, -1, make([]bool, len(g))
		if one[at] == nil {
			continue
		}
		for _, ahead := range one[at][:len(one[at])-1] {
			if common[at][ahead] {
				a.idom[at] = ahead
			}
		}
		for _, to := range g[at] {
			if to >= 0 && to < len(g) {
				on[at][to] = !common[at][to]
				heads[to] = heads[to] || common[at][to]
			}
		}
	}
	for at, c := range closed(on) {
		if heads[at] {
			a.heads = append(a.heads, at)
		}
		a.reducible = a.reducible && !c[at]
	}
	if a.reducible {
		a.row = secondRow(on, a.reach)
	}
	return a
}

// secondRow puts, as long as there is one, the least node that none that is not yet put leads to.
func secondRow(on [][]bool, reach []bool) []int {
	var l []int
	for at := 0; at < len(reach); at++ {
		could := reach[at] && !slices.Contains(l, at)
		for ahead := range on {
			could = could && (!on[ahead][at] || slices.Contains(l, ahead))
		}
		if could {
			l = append(l, at)
			at = -1
		}
	}
	return l
}

func wantSecond(t *testing.T, g [][]int, from int) answer {
	t.Helper()
	got, want := answerOf(g, from), secondAnswer(g, from)
	if !got.same(want) {
		t.Fatalf("12.1, 12.2: %v from %d tells\n%s, want\n%s", g, from, got.text(), want.text())
	}
	return got
}

// TestAllSmallGraphs: each graph of up to four nodes.
func TestAllSmallGraphs(t *testing.T) {
	for n := range 4 {
		for number := range 1 << (n * n) {
			for from := -1; from <= n; from++ {
				wantSecond(t, numbered(n, number), from)
			}
		}
	}
	unlike := 0
	for number := range 1 << 16 {
		if a := wantSecond(t, numbered(4, number), number%4); !a.reducible {
			unlike++
		}
	}
	if unlike < 1000 {
		t.Errorf("12.2: only %d of them are not reducible", unlike)
	}
}

func TestGrownGraphs(t *testing.T) {
	d := dice(12)
	counts := [2]int{}
	for range 8000 {
		n := 1 + d.roll(8)
		g := d.grown(n, d.roll(3*n+1))
		from := d.roll(n)
		if d.roll(20) == 0 {
			from = far(n)[d.roll(len(far(n)))]
		}
		if a := wantSecond(t, g, from); a.reducible {
			counts[0]++
		} else {
			counts[1]++
		}
	}
	if min(counts[0], counts[1]) < 500 {
		t.Errorf("12.2: of the grown graphs %v are reducible, and not", counts)
	}
}

// TestWithoutTheOneThatIsTold: without it no way leads there; without any that is not on the row one does.
func TestWithoutTheOneThatIsTold(t *testing.T) {
	d := dice(13)
	for range 300 {
		n := 20 + d.roll(60)
		g := d.grown(n, 2*n)
		idom, reach := Dominators(g, 0), Reach(g, 0)
		for but := 1; but < n; but++ {
			less := copied(g)
			for at := range less {
				less[at] = slices.DeleteFunc(less[at], func(to int) bool { return to == but })
			}
			still := Reach(less, 0)
			for at := range reach {
				if reach[at] && still[at] == Dominates(idom, but, at) {
					t.Fatalf("12.1: %v: %d, without %d reached: %v; it dominates: %v", g, at, but, still[at], !still[at])
				}
			}
		}
	}
}

// collapses tells whether a graph becomes one node when edges of a node to itself, and nodes that only one leads to, are taken in.
func collapses(g [][]int, from int) bool {
	reach := Reach(g, from)
	into := make([]map[int]int, len(g)) // of each node those that lead to it
	left := 0
	for at := range g {
		into[at] = map[int]int{}
	}
	for at, is := range reach {
		if !is {
			continue
		}
		left++
		for _, to := range g[at] {
			if to >= 0 && to < len(g) && to != at {
				into[to][at] = 1
			}
		}
	}
	for {
		again := false
		for at := range g {
			if at == from || len(into[at]) != 1 {
				continue
			}
			again = true
			left--
			for one := range into[at] {
				delete(into[at], one)
				for to := range g {
					if into[to][at] == 1 {
						delete(into[to], at)
						if to != one {
							into[to][one] = 1
						}
					}
				}
			}
		}
		if !again {
			return left <= 1
		}
	}
}

// TestReducibleAgainstTakingIn: one that is reducible can be taken in node by node, no other can.
func TestReducibleAgainstTakingIn(t *testing.T) {
	d := dice(14)
	counts := [2]int{}
	for range 4000 {
		n := 1 + d.roll(14)
		g := d.grown(n, 2*n)
		want := collapses(g, 0)
		if got := Reducible(g, 0); got != want {
			t.Fatalf("12.2: %v: reducible: %v, want %v", g, got, want)
		}
		if want {
			counts[0]++
		} else {
			counts[1]++
		}
	}
	if min(counts[0], counts[1]) < 500 {
		t.Errorf("12.2: of the grown graphs %v are reducible, and not", counts)
	}
}
