package shape

import (
	"reflect"
	"slices"
	"testing"
)

// spoil writes into a list, to the end of its room, and appends to it.
func spoil[T any](l []T, with T) {
	_ = append(l, with, with)
	for i := range l[:cap(l)] {
		l[:cap(l)][i] = with
	}
}

// TestWhatIsHandedInStays: with the room behind it; and nothing that is told hangs on it, or on what was told before.
func TestWhatIsHandedInStays(t *testing.T) {
	d := dice(20)
	for range 500 {
		n := 1 + d.roll(9)
		whole := d.grown(n+1, 2*n)
		for at := range whole {
			whole[at] = append(whole[at], 77, 78)
		}
		same := copied(whole)
		g := whole[:n]
		for at := range g {
			g[at] = g[at][:len(g[at])-2]
		}
		first, second := answerOf(g, 0), answerOf(g, 0)
		want := first.text()
		spoil(first.reach, true)
		spoil(first.idom, -99)
		spoil(first.heads, -99)
		spoil(first.row, -99)
		if third := answerOf(g, 0); second.text() != want || third.text() != want {
			t.Fatalf("R3: %v tells\n%s, then\n%s,\n%s", g, want, second.text(), third.text())
		}
		for at := range g {
			g[at] = g[at][:len(g[at])+2]
		}
		if !reflect.DeepEqual(whole, same) {
			t.Fatalf("R3: what was handed in is another one now: %v, before %v", whole, same)
		}
		for at := range g {
			spoil(g[at], 0)
		}
		if second.text() != want {
			t.Fatalf("R3: what is told hangs on what was handed in: %s, before %s", second.text(), want)
		}
	}
}

func TestDominatesChangesNothing(t *testing.T) {
	idom := []int{-1, 0, 1, 9, 4, 3, 88, 89}
	same := slices.Clone(idom)
	for range 2 {
		for a := -1; a < 8; a++ {
			for b := -1; b < 8; b++ {
				Dominates(idom[:6], a, b)
			}
		}
		if !slices.Equal(idom, same) {
			t.Fatalf("R3: what was handed in is another one now: %v", idom)
		}
	}
}

// TestOneListTwice: nodes may have one list of edges in common.
func TestOneListTwice(t *testing.T) {
	edges := []int{1, 2}
	if got, want := answerOf([][]int{edges, edges, edges[:1]}, 0), answerOf([][]int{{1, 2}, {1, 2}, {1}}, 0); !got.same(want) {
		t.Errorf("12: %s, want %s", got.text(), want.text())
	}
}
