package lower

import (
	"math"
	"slices"
	"testing"

	"calliper/api"
)

// far are places that there are not in a list of n: below 0, just behind its end, far out, and some with lower bits that are places.
func far(n int) []int {
	return []int{-1, -2, -n, -n - 1, n, n + 1, 99, 1 << 31, 1 << 32, 1<<32 + 1, -1 << 32, math.MaxInt, math.MinInt, math.MinInt + 1}
}

// within5 is a list of five, with one instruction at place 2.
func within5(i api.Instr) []api.Instr {
	return []api.Instr{{}, {}, i, {}, {}}
}

func wantNext(t *testing.T, i api.Instr, want ...int) {
	t.Helper()
	if got := Next(within5(i), 2); !slices.Equal(got, want) {
		t.Errorf("11.2: of kind %d to %d, else %d: %v, want %v", i.Kind, i.Next, i.Else, got, want)
	}
}

func TestNextOfIfs(t *testing.T) {
	for a := range 5 {
		for b := range 5 {
			want := []int{min(a, b), max(a, b)}
			if a == b {
				want = want[:1]
			}
			wantNext(t, api.Instr{Kind: api.IIf, Next: a, Else: b}, want...)
		}
		for _, none := range far(5) {
			wantNext(t, api.Instr{Kind: api.IIf, Next: a, Else: none}, a)
			wantNext(t, api.Instr{Kind: api.IIf, Next: none, Else: a}, a)
			for _, other := range far(5) {
				wantNext(t, api.Instr{Kind: api.IIf, Next: none, Else: other})
			}
		}
	}
}

// TestNextOfOthers: of no other kind Else counts.
func TestNextOfOthers(t *testing.T) {
	for _, kind := range []int{api.IDo, api.IInv, api.IHead, 0, -1, 5, 1<<32 + api.IIf} {
		for a := range 5 {
			for _, b := range append(far(5), 0, 1, 2, 3, 4) {
				wantNext(t, api.Instr{Kind: kind, Next: a, Else: b}, a)
			}
		}
		for _, none := range far(5) {
			wantNext(t, api.Instr{Kind: kind, Next: none, Else: 3})
			wantNext(t, api.Instr{Kind: kind, Next: none, Else: -1})
		}
	}
	// A return goes on nowhere only because its Next is the end.
	wantNext(t, api.Instr{Kind: api.IDo, S: api.Stmt{Kind: api.SReturn}, Next: 3, Else: -1}, 3)
}

func TestNextOfPlacesThatThereAreNot(t *testing.T) {
	l := within5(api.Instr{Kind: api.IIf, Next: 1, Else: 2})
	for _, at := range far(5) {
		for _, list := range [][]api.Instr{l, l[:0], nil, l[:5:5]} {
			if got := Next(list, at); len(got) != 0 {
				t.Errorf("11.2: of place %d in a list of %d: %v", at, len(list), got)
			}
		}
	}
	// What stands behind a list's end is none of it.
	if got := Next(l[:2], 2); len(got) != 0 {
		t.Errorf("11.2: of the place behind the end: %v", got)
	}
	if got := Next(l[:3], 2); !slices.Equal(got, []int{1, 2}) {
		t.Errorf("11.2: of the last place: %v", got)
	}
	if got := Next([]api.Instr{{Kind: api.IIf, Next: 1, Else: 0}}, 0); !slices.Equal(got, []int{0}) {
		t.Errorf("11.2: of a list of one: %v", got)
	}
	if got := Next(nil, 0); len(got) != 0 {
		t.Errorf("11.2: of no list: %v", got)
	}
}

// TestNextOfLowered: each place of a body, as it goes on there.
func TestNextOfLowered(t *testing.T) {
	l, _ := Lower(mustFunc(t, "fn f ( ) { while x < 1 invariant y < 2 ; { if z < 3 and w < 4 { break ; } return ; } if x < 5 { } u = 6 ; }"))
	want := [][]int{{}, {0}, {7}, {}, {1, 3}, {3, 4}, {1, 5}, {6}}
	for at, i := range l {
		if got := Next(l, at); at >= len(want) || !slices.Equal(got, want[at]) {
			t.Errorf("11.2: place %d, %s: %v", at, instrText(i, nil), got)
		}
	}
	if len(l) != len(want) {
		t.Errorf("11.2: %s", text(l, 0, nil))
	}
}
