package shape

import (
	"fmt"
	"math"
	"slices"
)

// dice are the same at each run of the tests.
type dice uint32

func (d *dice) roll(n int) int {
	*d = *d*1664525 + 1013904223
	return int(*d>>8) % n
}

// far are places that there are not in a graph of n: below 0, just behind its end, far out, and some with lower bits that are places.
func far(n int) []int {
	return []int{-1, -2, -n - 1, n, n + 1, 2000, 2047, 2048, 1 << 31, 1 << 32, 1<<32 + 1, -1 << 32, math.MaxInt, math.MinInt, math.MinInt + 1}
}

// An answer is what all calls tell of a graph, but Dominates.
type answer struct {
	reach      []bool
	idom       []int
	heads, row []int
	reducible  bool
}

func answerOf(g [][]int, from int) answer {
	return answer{Reach(g, from), Dominators(g, from), Heads(g, from), Order(g, from), Reducible(g, from)}
}

func (a answer) text() string {
	marks := ""
	for _, is := range a.reach {
		marks += map[bool]string{true: "x", false: "."}[is]
	}
	return fmt.Sprint(marks, " idom ", a.idom, " heads ", a.heads, " reducible ", a.reducible, " order ", a.row)
}

// same tells whether two answers are one; a nil list and an empty one are one.
func (a answer) same(b answer) bool {
	return slices.Equal(a.reach, b.reach) && slices.Equal(a.idom, b.idom) && slices.Equal(a.heads, b.heads) && slices.Equal(a.row, b.row) && a.reducible == b.reducible
}

func copied(g [][]int) [][]int {
	c := slices.Clone(g)
	for at := range c {
		c[at] = slices.Clone(c[at])
	}
	return c
}

// numbered is the graph of n nodes in which the bits of a number say which node leads to which.
func numbered(n, number int) [][]int {
	g := make([][]int, n)
	for a := range n {
		for b := range n {
			if number>>(a*n+b)&1 == 1 {
				g[a] = append(g[a], b)
			}
		}
	}
	return g
}

// grown is a graph of n nodes with about so many edges, some of them to what is no node, and some given twice.
func (d *dice) grown(n, edges int) [][]int {
	g := make([][]int, n)
	for range edges {
		at, to := d.roll(n), d.roll(n)
		switch d.roll(12) {
		case 0:
			to = far(n)[d.roll(len(far(n)))]
		case 1:
			g[at] = append(g[at], to)
		}
		g[at] = append(g[at], to)
	}
	return g
}

// row is a graph of n nodes, each of which leads to the next one.
func row(n int) [][]int {
	g := make([][]int, n)
	for at := range n - 1 {
		g[at] = []int{at + 1}
	}
	return g
}

// rising are the nodes from 0 on.
func rising(n int) []int {
	l := make([]int, n)
	for at := range l {
		l[at] = at
	}
	return l
}
