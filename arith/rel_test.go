package arith

import (
	"math"
	"testing"

	"calliper/api"
)

// A told is what a relation tells where a is less than b, where they are equal, and where a is greater.
type told struct {
	rel                  int
	name                 string
	less, equal, greater bool
}

func relations() []told {
	return []told{
		{api.REq, "REq", false, true, false},
		{api.RNe, "RNe", true, false, true},
		{api.RLt, "RLt", true, false, false},
		{api.RLe, "RLe", true, true, false},
		{api.RGt, "RGt", false, false, true},
		{api.RGe, "RGe", false, true, true},
	}
}

// rising numbers of any size: they need not be In a type.
func rising() []int {
	return []int{math.MinInt, math.MinInt + 1, -1 << 40, least - 1, least, least + 1, -2, -1, 0, 1, 2, most - 1, most, most + 1, all, all + 1, 1 << 40, math.MaxInt - 1, math.MaxInt}
}

func TestRel(t *testing.T) {
	for _, r := range relations() {
		for i, a := range rising() {
			for j, b := range rising() {
				want := r.equal
				if i < j {
					want = r.less
				} else if i > j {
					want = r.greater
				}
				if Rel(r.rel, a, b) != want {
					t.Errorf("6.1: Rel(%s, %d, %d) is not %v", r.name, a, b, want)
				}
			}
		}
	}
}

func TestRelOfNone(t *testing.T) {
	for _, rel := range []int{0, -1, -api.REq, api.RGe + 1, 8, 99, 256 + api.REq, 1<<32 + api.RNe, math.MinInt, math.MinInt + api.RLe, math.MaxInt} {
		for _, a := range rising() {
			for _, b := range rising() {
				if Rel(rel, a, b) {
					t.Errorf("6.1: Rel(%d, %d, %d) is true, though there is no such relation", rel, a, b)
				}
			}
		}
	}
}
