package arith

import (
	"math"
	"testing"

	"calliper/api"
)

// pairs that would have a value, or an undefined behaviour, were they In the type asked for.
func pairs() [][2]int {
	return [][2]int{{0, 0}, {1, 1}, {1, 0}, {7, 2}, {1, 32}, {most, 1}, {most, most}, {1, 31}}
}

func TestOfNoOperator(t *testing.T) {
	for _, kind := range []int{0, -1, api.ENum, api.EVar, api.EElem, api.EOld, api.EResult, api.ECast, api.ECast + 1, 99, -api.EAdd, 256 + api.EAdd, 1<<32 + api.EAdd, math.MinInt, math.MinInt + api.EDiv, math.MaxInt} {
		for _, typ := range []int{api.I32, api.U32} {
			for _, p := range pairs() {
				checkRows(t, "6.1", []row{{kind, typ, p[0], p[1], 0, api.UbNone}})
			}
		}
	}
}

func TestOfOtherTypes(t *testing.T) {
	for _, typ := range []int{0, -1, api.I8, api.U8, api.I16, api.U16, api.U32 + 1, 99, -api.I32, 256 + api.I32, 1<<32 + api.U32, math.MinInt, math.MinInt + api.I32, math.MaxInt} {
		for _, kind := range kinds() {
			for _, p := range pairs() {
				checkRows(t, "6.1", []row{{kind, typ, p[0], p[1], 0, api.UbNone}})
			}
		}
	}
}

// TestOfNumbersBeyond: an a that is none of the type has no value with any kind, nor has such a b, but of shifts.
func TestOfNumbersBeyond(t *testing.T) {
	for _, typ := range []int{api.I32, api.U32} {
		for _, v := range outside() {
			if within(typ, v) {
				continue
			}
			for _, kind := range kinds() {
				for _, w := range []int{0, 1, 2, 31, 32, v} {
					checkRows(t, "6.1", []row{{kind, typ, v, w, 0, api.UbNone}})
					if !isShift(kind) {
						checkRows(t, "6.1", []row{{kind, typ, w, v, 0, api.UbNone}})
					}
				}
			}
		}
	}
}

// TestOfNumbersAtTheEdges: the ends of a type have a value, and the ones next to them none.
func TestOfNumbersAtTheEdges(t *testing.T) {
	checkRows(t, "6.1", []row{
		{api.EOr, api.I32, least, 0, least, api.UbNone},
		{api.EOr, api.I32, 0, least, least, api.UbNone},
		{api.EOr, api.I32, most, 0, most, api.UbNone},
		{api.EOr, api.I32, 0, most, most, api.UbNone},
		{api.EOr, api.I32, least - 1, 0, 0, api.UbNone},
		{api.EOr, api.I32, 0, least - 1, 0, api.UbNone},
		{api.EOr, api.I32, most + 1, 0, 0, api.UbNone},
		{api.EOr, api.I32, 0, most + 1, 0, api.UbNone},
		{api.EOr, api.U32, all, 0, all, api.UbNone},
		{api.EOr, api.U32, 0, all, all, api.UbNone},
		{api.EOr, api.U32, all + 1, 1, 0, api.UbNone},
		{api.EOr, api.U32, 1, all + 1, 0, api.UbNone},
		{api.EOr, api.U32, -1, 1, 0, api.UbNone},
		{api.EOr, api.U32, 1, -1, 0, api.UbNone},
		{api.EShr, api.U32, all + 1, 1, 0, api.UbNone},
		{api.EShr, api.U32, -1, 32, 0, api.UbNone},
		{api.EShl, api.I32, most + 1, 32, 0, api.UbNone},
		{api.EShl, api.I32, least - 1, -1, 0, api.UbNone},
		{api.EDiv, api.U32, -1, 0, 0, api.UbNone},
		{api.EMod, api.I32, least - 1, -1, 0, api.UbNone},
	})
}
