package shape

import (
	"slices"
	"testing"
)

// wantNothing: so it is told of more nodes than may be.
func wantNothing(t *testing.T, what string, g [][]int, from int) {
	t.Helper()
	if got := answerOf(g, from); !got.same(answer{}) {
		t.Errorf("12: %s of %d: %d of reach, %d of idom, heads %v, %d of order, reducible %v", what, len(g), len(got.reach), len(got.idom), got.heads, len(got.row), got.reducible)
	}
}

// TestMostNodes: 2000 of them count, one more are too many.
func TestMostNodes(t *testing.T) {
	for _, n := range []int{1999, 2000} {
		got, want := answerOf(row(n), 0), answer{reach: slices.Repeat([]bool{true}, n), idom: append([]int{-1}, rising(n-1)...), row: rising(n), reducible: true}
		if !got.same(want) {
			t.Errorf("12: a row of %d is not told as it is", n)
		}
		for _, c := range [][2]int{{0, n - 1}, {n - 1, n - 1}, {n - 2, n - 1}, {63, 64}, {64, 1984}} {
			if !Dominates(got.idom, c[0], c[1]) || c[0] != c[1] && Dominates(got.idom, c[1], c[0]) {
				t.Errorf("12.1: on a row of %d: %v", n, c)
			}
		}
	}
	for _, n := range []int{2001, 2002, 2047, 2048, 2049, 4000, 1 << 17} {
		wantNothing(t, "a row", row(n), 0)
		wantNothing(t, "nodes without edges", make([][]int, n), 0)
		wantNothing(t, "nodes, from none", make([][]int, n), -1)
		for _, idom := range [][]int{append([]int{-1}, rising(n-1)...), rising(n), slices.Repeat([]int{-1}, n)} {
			if Dominates(idom, 0, 0) || Dominates(idom, 0, 1) || Dominates(idom, 5, 5) || Dominates(idom, n-1, n-1) {
				t.Errorf("12: of %d nodes: one dominates one", n)
			}
		}
	}
	// It is the length that counts, not the room behind it.
	if g := row(2001)[:2000]; len(Reach(g, 0)) != 2000 || len(Order(g, 0)) != 2000 {
		t.Error("12: of a piece of a list")
	}
}

// TestGreatGraphs: of 2000 nodes, with few edges and with all that there can be.
func TestGreatGraphs(t *testing.T) {
	const n = 2000
	all := make([][]int, n)
	up, down, ring, ladder := make([][]int, n), make([][]int, n), row(n), row(n)
	for at := range n {
		all[at] = rising(n)
		up[at] = rising(n)[at+1:]
		down[at] = append(rising(n)[:at], min(at+1, n-1))
		if at > 0 {
			ladder[at] = append(ladder[at], at-1)
		}
	}
	ring[n-1] = []int{0}
	ladder[0] = append(ladder[0], n-1)
	reached := slices.Repeat([]bool{true}, n)
	star := append([]int{-1}, make([]int, n-1)...)
	line := append([]int{-1}, rising(n-1)...)
	for _, c := range []struct {
		what string
		g    [][]int
		from int
		want answer
	}{
		{"all edges", all, 0, answer{reached, star, rising(n), nil, false}},
		{"all edges on", up, 0, answer{reached, star, nil, rising(n), true}},
		{"all edges back", down, 0, answer{reached, line, rising(n), rising(n), true}},
		{"a ring", ring, 0, answer{reached, line, []int{0}, rising(n), true}},
		{"a ladder entered at both ends", ladder, 0, answer{reached, star, []int{0}, nil, false}},
	} {
		if got := answerOf(c.g, c.from); !got.same(c.want) {
			t.Errorf("12: %s, of %d nodes: heads %.20v, order %.20v, reducible %v", c.what, n, got.heads, got.row, got.reducible)
		}
	}
	// From the last node of a row back.
	for at := range ring {
		ring[at] = []int{at - 1}
	}
	got := answerOf(ring, n-1)
	for at := range got.idom {
		if want := at + 1; at < n-1 && got.idom[at] != want || !got.reach[at] || got.row[at] != n-1-at {
			t.Fatalf("12: a row back: of %d: %d", at, got.idom[at])
		}
	}
}
