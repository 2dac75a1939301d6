package shape

import (
	"fmt"
	"slices"
	"testing"
)

func TestDominators(t *testing.T) {
	for _, c := range []struct {
		what string
		g    [][]int
		from int
		want string
	}{
		{"no nodes", nil, 0, "[]"},
		{"one", [][]int{nil}, 0, "[-1]"},
		{"one that leads to itself", [][]int{{0}}, 0, "[-1]"},
		{"a row", [][]int{{1}, {2}, {3}, nil}, 0, "[-1 0 1 2]"},
		{"a row back", [][]int{nil, {0}, {1}, {2}}, 3, "[1 2 3 -1]"},
		{"a row from its middle", [][]int{{1}, {2}, {3}, nil}, 2, "[-1 -1 -1 2]"},
		{"a fork that meets again", [][]int{{1, 2}, {3}, {3}, {4}, nil}, 0, "[-1 0 0 0 3]"},
		{"a fork that does not", [][]int{{1, 2}, {3}, {4}, nil, nil}, 0, "[-1 0 0 1 2]"},
		{"a fork within a fork", [][]int{{1, 2}, {3, 4}, {6}, {5}, {5}, {6}, nil}, 0, "[-1 0 0 1 1 1 0]"},
		{"an edge past a node", [][]int{{1, 2}, {2}, nil}, 0, "[-1 0 0]"},
		{"an edge past two", [][]int{{1}, {2, 4}, {3}, {4}, nil}, 0, "[-1 0 1 2 1]"},
		{"a ring", [][]int{{1}, {2}, {3, 1}, nil}, 0, "[-1 0 1 2]"},
		{"rings in one another", [][]int{{1}, {2}, {3}, {2, 4}, {1, 5}, nil}, 0, "[-1 0 1 2 3 4]"},
		{"a ring entered at two places", [][]int{{1, 2}, {2}, {1, 3}, nil}, 0, "[-1 0 0 2]"},
		{"such a ring of three", [][]int{{1, 3}, {2}, {3}, {1}}, 0, "[-1 0 1 0]"},
		{"one that is entered at each of its nodes", [][]int{{1, 2, 3}, {2}, {3}, {1}}, 0, "[-1 0 0 0]"},
		{"a node that leads to itself", [][]int{{1}, {1, 2}, nil}, 0, "[-1 0 1]"},
		{"the first node is led back to", [][]int{{1}, {2}, {0, 3}, {0}}, 0, "[-1 0 1 2]"},
		{"the first node is another, and led back to", [][]int{{1}, {2}, {0, 3}, {0}}, 2, "[2 0 -1 2]"},
		{"one that is not reached leads to one that is", [][]int{{1}, nil, {1}, {2, 1}}, 0, "[-1 0 -1 -1]"},
		{"one that is not reached leads into the middle of a row", [][]int{{1}, {2}, nil, {2, 0}}, 0, "[-1 0 1 -1]"},
		{"a ladder", [][]int{{1, 4}, {2}, {1, 3}, {2, 4}, {3}}, 0, "[-1 0 0 0 0]"},
		{"two ways that are far apart", [][]int{{1, 4}, {2}, {3}, {7}, {5}, {6}, {7}, {8}, {2}}, 0, "[-1 0 0 2 0 4 5 0 7]"},
		// From a text on dominators, with its nodes R, A to L as 0 to 12.
		{"a greater one", [][]int{{1, 2, 3}, {4}, {1, 4, 5}, {6, 7}, {12}, {8}, {9}, {9, 10}, {5, 11}, {11}, {9}, {9, 0}, {8}}, 0, "[-1 0 0 0 0 0 3 3 0 0 7 0 4]"},
	} {
		if got := fmt.Sprint(Dominators(c.g, c.from)); got != c.want {
			t.Errorf("12.1: %s: %v from %d: %s, want %s", c.what, c.g, c.from, got, c.want)
		}
	}
}

func TestDominates(t *testing.T) {
	// A row 0, 1, 2, 3, a node that leads to 1, too, one alone.
	idom := []int{-1, 0, 1, 2, 1, -1}
	want := [][]int{{0}, {0, 1}, {0, 1, 2}, {0, 1, 2, 3}, {0, 1, 4}, {5}}
	for b, row := range want {
		for a := range idom {
			if got := Dominates(idom, a, b); got != slices.Contains(row, a) {
				t.Errorf("12.1: %v: %d dominates %d: %v", idom, a, b, got)
			}
		}
	}
}

// TestDominatesOfNoNodes: a, b and what stands in idom.
func TestDominatesOfNoNodes(t *testing.T) {
	idom := []int{-1, 0, 1}
	for _, none := range far(3) {
		for at := range 3 {
			if Dominates(idom, none, at) || Dominates(idom, at, none) {
				t.Errorf("12.1: %d and %d: it dominates", none, at)
			}
		}
		if Dominates(idom, none, none) || Dominates(nil, none, none) {
			t.Errorf("12.1: %d, and itself: it dominates", none)
		}
		// A row that leaves the nodes ends there.
		leaves := []int{1, none, 0}
		for b, row := range [][]int{{0, 1}, {1}, {0, 1, 2}} {
			for a := range 3 {
				if got := Dominates(leaves, a, b); got != slices.Contains(row, a) {
					t.Errorf("12.1: %v: %d dominates %d: %v", leaves, a, b, got)
				}
			}
			if Dominates(leaves, none, b) {
				t.Errorf("12.1: %v: %d dominates %d", leaves, none, b)
			}
		}
	}
	for a := -1; a < 2; a++ {
		for b := -1; b < 2; b++ {
			if Dominates(nil, a, b) || Dominates([]int{}, a, b) || Dominates(idom[:0], a, b) {
				t.Errorf("12.1: of no nodes: %d dominates %d", a, b)
			}
		}
	}
	// What stands behind the end is none of it.
	if Dominates(idom[:2], 0, 2) || Dominates(idom[:2], 2, 2) || !Dominates(idom[:2], 0, 1) {
		t.Error("12.1: of a piece of a list")
	}
}

// TestDominatesInRings: a row that goes in a ring has what is on it, and ends.
func TestDominatesInRings(t *testing.T) {
	for _, c := range []struct{ idom, row []int }{
		{[]int{0}, []int{0}}, {[]int{1, 0}, []int{0, 1}}, {[]int{0, 1, 2}, []int{0}}, {[]int{1, 2, 0, 0}, []int{0, 1, 2}}, {[]int{1, 2, 3, 1, 0}, []int{0, 1, 2, 3}}, {[]int{2, 0, 2, 1}, []int{0, 2}}, {[]int{4, 4, 1, 2, 3}, []int{0, 1, 2, 3, 4}},
	} {
		for a := -1; a <= len(c.idom); a++ {
			if got := Dominates(c.idom, a, 0); got != slices.Contains(c.row, a) {
				t.Errorf("12.1: %v: %d dominates 0: %v", c.idom, a, got)
			}
		}
	}
	// A ring of all nodes has the last of them, too.
	for n := 1; n <= 40; n++ {
		ring := append(rising(n)[1:], 0)
		for a := range n {
			for b := range n {
				if !Dominates(ring, a, b) {
					t.Fatalf("12.1: a ring of %d: %d does not dominate %d", n, a, b)
				}
			}
		}
	}
}

// TestDominatesOnGrownRows: whatever stands in idom, a is one of the row or not.
func TestDominatesOnGrownRows(t *testing.T) {
	d := dice(18)
	for range 3000 {
		n := d.roll(9)
		idom := make([]int, n)
		for at := range idom {
			idom[at] = d.roll(n+2) - 1
		}
		for b := range n {
			on := make([]bool, n)
			for at := b; at >= 0 && at < n && !on[at]; at = idom[at] {
				on[at] = true
			}
			for a, want := range on {
				if got := Dominates(idom, a, b); got != want {
					t.Fatalf("12.1: %v: %d dominates %d: %v", idom, a, b, got)
				}
			}
		}
	}
}
