package shape

import (
	"fmt"
	"testing"
)

func TestHeadsAndOrders(t *testing.T) {
	for _, c := range []struct {
		what       string
		g          [][]int
		from       int
		heads, row string
		reducible  bool
	}{
		{"no nodes", nil, 0, "[]", "[]", true},
		{"one", [][]int{nil}, 0, "[]", "[0]", true},
		{"one that leads to itself", [][]int{{0}}, 0, "[0]", "[0]", true},
		{"one among others that leads to itself", [][]int{{1}, {1, 2}, nil}, 0, "[1]", "[0 1 2]", true},
		{"a row", [][]int{{1}, {2}, nil}, 0, "[]", "[0 1 2]", true},
		{"a row back", [][]int{nil, {0}, {1}}, 2, "[]", "[2 1 0]", true},
		{"a row of which some is not reached", [][]int{{1}, {2}, nil}, 1, "[]", "[1 2]", true},
		{"a fork that meets again", [][]int{{2, 1}, {3}, {3}, nil}, 0, "[]", "[0 1 2 3]", true},
		{"what is led to late comes late", [][]int{{2, 3}, nil, {1}, {2}}, 0, "[]", "[0 3 2 1]", true},
		{"the least of those that could come", [][]int{{5, 4, 1}, nil, {3}, nil, {2}, nil}, 0, "[]", "[0 1 4 2 3 5]", true},
		{"not the least where it cannot come yet", [][]int{{1, 5, 3}, {6}, nil, {1}, nil, {2, 4, 3}, nil}, 0, "[]", "[0 5 2 3 1 4 6]", true},
		{"what just becomes ready goes ahead of what is", [][]int{{2, 3}, nil, {1}, nil}, 0, "[]", "[0 2 1 3]", true},
		{"a ring", [][]int{{1}, {2}, {1, 3}, nil}, 0, "[1]", "[0 1 2 3]", true},
		{"a ring that begins at the first node", [][]int{{1}, {2}, {0}}, 0, "[0]", "[0 1 2]", true},
		{"the same ring from elsewhere", [][]int{{1}, {2}, {0}}, 1, "[1]", "[1 2 0]", true},
		{"two edges back to one head", [][]int{{1}, {2, 3}, {1}, {1, 1}}, 0, "[1]", "[0 1 2 3]", true},
		{"rings in one another", [][]int{{1}, {2}, {2, 3}, {1, 4}, {0}}, 0, "[0 1 2]", "[0 1 2 3 4]", true},
		{"heads stand in their order, not in that of the ways", [][]int{nil, {1, 0}, {2, 1}, {2, 3}}, 3, "[1 2 3]", "[3 2 1 0]", true},
		{"one ring behind the other", [][]int{{1}, {0, 2}, {3}, {2, 4}, nil}, 0, "[0 2]", "[0 1 2 3 4]", true},
		{"a ring of which a way leads out of the middle", [][]int{{1}, {2, 4}, {3}, {1}, nil}, 0, "[1]", "[0 1 2 3 4]", true},
		{"a ring entered at two places", [][]int{{1, 2}, {2}, {1}}, 0, "[]", "[]", false},
		{"the same ring entered at one", [][]int{{1}, {2}, {1}}, 0, "[1]", "[0 1 2]", true},
		{"such a ring beside one with a head", [][]int{{1, 2, 3}, {2}, {1}, {3, 4}, {3}}, 0, "[3]", "[]", false},
		{"such a ring within one with a head", [][]int{{1}, {2, 3}, {3}, {2, 1}}, 0, "[1]", "[]", false},
		{"such a ring around one with a head", [][]int{{1, 3}, {2}, {2, 3}, {1}}, 0, "[2]", "[]", false},
		{"such a ring that is not reached", [][]int{{3}, {2}, {1}, nil, {1, 2}}, 0, "[]", "[0 3]", true},
		{"such a ring, one of whose entries is not reached", [][]int{{1}, {2}, {1}, {2}}, 0, "[1]", "[0 1 2]", true},
		{"an edge back from what is not reached", [][]int{{1}, {2}, nil, {1, 0, 3}}, 0, "[]", "[0 1 2]", true},
		{"a ring that is not reached", [][]int{{1}, nil, {3}, {2, 1}}, 0, "[]", "[0 1]", true},
		{"edges to what is no node", [][]int{{1, -1, 4}, {2, 3}, {0, -3}}, 0, "[0]", "[0 1 2]", true},
		{"edges given twice", [][]int{{1, 1}, {2, 2, 1, 1}, {3, 3}, {1, 1}}, 0, "[1]", "[0 1 2 3]", true},
		{"a from that is no node", [][]int{{1, 2}, {2}, {1}}, 3, "[]", "[]", true},
		{"a from below 0", [][]int{{1, 2}, {2}, {1}}, -1, "[]", "[]", true},
	} {
		got := fmt.Sprint(Heads(c.g, c.from), Order(c.g, c.from), Reducible(c.g, c.from))
		if want := fmt.Sprint(c.heads, " ", c.row, " ", c.reducible); got != want {
			t.Errorf("12.2: %s: %v from %d: %s, want %s", c.what, c.g, c.from, got, want)
		}
	}
}

// TestOrders: each reached node stands there once, ahead of those that it leads to but by edges back.
func TestOrders(t *testing.T) {
	d := dice(19)
	orders := 0
	for range 2000 {
		n := 1 + d.roll(40)
		g := d.grown(n, n+d.roll(n))
		reach, idom, row := Reach(g, 0), Dominators(g, 0), Order(g, 0)
		place := make([]int, n)
		for at := range place {
			place[at] = -1
		}
		for i, at := range row {
			if at < 0 || at >= n || !reach[at] || place[at] >= 0 {
				t.Fatalf("12.2: %v: %v", g, row)
			}
			place[at] = i
		}
		if Reducible(g, 0) == (len(row) == 0) {
			t.Fatalf("12.2: %v: reducible: %v, order %v", g, Reducible(g, 0), row)
		}
		if len(row) == 0 {
			continue
		}
		orders++
		for at := range g {
			if reach[at] != (place[at] >= 0) {
				t.Fatalf("12.2: %v: reached: %v, order %v", g, reach, row)
			}
			for _, to := range g[at] {
				if reach[at] && to >= 0 && to < n && !Dominates(idom, to, at) && place[at] >= place[to] {
					t.Fatalf("12.2: %v: %d leads to %d, order %v", g, at, to, row)
				}
			}
		}
	}
	if orders < 300 {
		t.Errorf("12.2: %d orders", orders)
	}
}
