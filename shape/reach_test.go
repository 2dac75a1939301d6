package shape

import (
	"fmt"
	"slices"
	"testing"
)

func reachText(g [][]int, from int) string {
	var l []int
	for at, is := range Reach(g, from) {
		if is {
			l = append(l, at)
		}
	}
	return fmt.Sprint(l, " of ", len(Reach(g, from)))
}

func TestReach(t *testing.T) {
	for _, c := range []struct {
		what string
		g    [][]int
		from int
		want string
	}{
		{"no nodes", nil, 0, "[] of 0"},
		{"no nodes", [][]int{}, -1, "[] of 0"},
		{"itself, without an edge", [][]int{{}, {}}, 0, "[0] of 2"},
		{"itself, with one", [][]int{{}, {1}}, 1, "[1] of 2"},
		{"one edge", [][]int{{1}, nil, nil}, 0, "[0 1] of 3"},
		{"not against an edge", [][]int{{1}, nil, nil}, 1, "[1] of 3"},
		{"several edges in a row", [][]int{{3}, {4}, {}, {1}, {}, {2}}, 0, "[0 1 3 4] of 6"},
		{"from the last one back", [][]int{nil, {0}, {1}, {2}}, 3, "[0 1 2 3] of 4"},
		{"a fork", [][]int{{2, 1}, {3}, {4}, nil, nil, {0}}, 0, "[0 1 2 3 4] of 6"},
		{"a ring", [][]int{{1}, {2}, {0}, {0}}, 1, "[0 1 2] of 4"},
		{"what leads to it does not count", [][]int{nil, {0}, {0, 1}}, 0, "[0] of 3"},
		{"edges given twice", [][]int{{1, 1, 1}, {2, 2}, nil}, 0, "[0 1 2] of 3"},
		{"edges to what is no node", [][]int{{-1, 3, 1, -2}, {3, 2, 4}, {-3}}, 0, "[0 1 2] of 3"},
		{"nothing but such edges", [][]int{{-1, 2}, {0}}, 0, "[0] of 2"},
		{"places that are not counted from the end", [][]int{{-1}, {-2}, {-3}}, 0, "[0] of 3"},
	} {
		if got := reachText(c.g, c.from); got != c.want {
			t.Errorf("12.1: %s: %v from %d reaches %s, want %s", c.what, c.g, c.from, got, c.want)
		}
	}
}

func TestFromNoNode(t *testing.T) {
	for n := range 4 {
		g := make([][]int, n)
		for at := range g {
			g[at] = rising(n)
		}
		for _, from := range far(n) {
			got := answerOf(g, from)
			want := answer{reach: make([]bool, n), idom: slices.Repeat([]int{-1}, n), reducible: true}
			if !got.same(want) {
				t.Errorf("12.1, 12.2: of %d nodes, from %d: %s, want %s", n, from, got.text(), want.text())
			}
		}
	}
}

// TestEdgesToNoNode: they change nothing.
func TestEdgesToNoNode(t *testing.T) {
	d := dice(15)
	for range 300 {
		n := 1 + d.roll(9)
		g := make([][]int, n)
		for range 2 * n {
			at := d.roll(n)
			g[at] = append(g[at], d.roll(n))
		}
		more := copied(g)
		for at := range more {
			for _, to := range far(n) {
				more[at] = slices.Insert(more[at], d.roll(len(more[at])+1), to)
			}
		}
		if got, want := answerOf(more, 0), answerOf(g, 0); !got.same(want) {
			t.Errorf("12: %v tells\n%s, without edges to no nodes\n%s", more, got.text(), want.text())
		}
	}
}

// TestEdgesTwice: nor does it count in what order edges stand, and how often.
func TestEdgesTwice(t *testing.T) {
	d := dice(16)
	for range 300 {
		n := 1 + d.roll(9)
		g := d.grown(n, 2*n)
		more := copied(g)
		for at := range more {
			more[at] = append(more[at], g[at]...)
			slices.Reverse(more[at])
			more[at] = append(more[at], g[at]...)
		}
		if got, want := answerOf(more, 0), answerOf(g, 0); !got.same(want) {
			t.Errorf("12: %v tells\n%s, with each edge once\n%s", more, got.text(), want.text())
		}
	}
}

// TestNodesThatAreNotReached: where they lead to does not count.
func TestNodesThatAreNotReached(t *testing.T) {
	d := dice(17)
	for range 300 {
		n := 2 + d.roll(9)
		g := d.grown(n, n)
		less := copied(g)
		for at, is := range Reach(g, 0) {
			if !is {
				less[at] = nil
			}
		}
		if got, want := answerOf(g, 0), answerOf(less, 0); !got.same(want) {
			t.Errorf("12: %v tells\n%s, without edges from what is not reached\n%s", g, got.text(), want.text())
		}
	}
}
