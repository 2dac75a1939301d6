package arith

import (
	"math"
	"testing"

	"calliper/api"
)

func TestNeg(t *testing.T) {
	checkRows(t, "6.1", []row{
		{api.ENeg, api.I32, 5, 0, -5, api.UbNone},
		{api.ENeg, api.I32, -5, 0, 5, api.UbNone},
		{api.ENeg, api.I32, 0, 0, 0, api.UbNone},
		{api.ENeg, api.I32, 1, 7, -1, api.UbNone},
		{api.ENeg, api.I32, -1, 7, 1, api.UbNone},
		{api.ENeg, api.I32, most, 0, -most, api.UbNone},
		{api.ENeg, api.I32, most - 1, 0, 1 - most, api.UbNone},
		{api.ENeg, api.I32, least + 1, 0, most, api.UbNone},
		{api.ENeg, api.I32, least, 0, 0, api.UbOver},
		{api.ENeg, api.I32, least, least, 0, api.UbOver},
		{api.ENeg, api.U32, 0, 0, 0, api.UbNone},
		{api.ENeg, api.U32, 1, 0, all, api.UbNone},
		{api.ENeg, api.U32, 5, 9, all - 4, api.UbNone},
		{api.ENeg, api.U32, all, 0, 1, api.UbNone},
		{api.ENeg, api.U32, all - 1, 0, 2, api.UbNone},
		{api.ENeg, api.U32, most + 1, 0, most + 1, api.UbNone},
	})
}

func TestAdd(t *testing.T) {
	checkRows(t, "6.1", []row{
		{api.EAdd, api.I32, 2, 3, 5, api.UbNone},
		{api.EAdd, api.I32, 2, -3, -1, api.UbNone},
		{api.EAdd, api.I32, 0, 0, 0, api.UbNone},
		{api.EAdd, api.I32, most, 0, most, api.UbNone},
		{api.EAdd, api.I32, most - 1, 1, most, api.UbNone},
		{api.EAdd, api.I32, most, 1, 0, api.UbOver},
		{api.EAdd, api.I32, 1, most, 0, api.UbOver},
		{api.EAdd, api.I32, most, -1, most - 1, api.UbNone},
		{api.EAdd, api.I32, most, most, 0, api.UbOver},
		{api.EAdd, api.I32, least, 0, least, api.UbNone},
		{api.EAdd, api.I32, least + 1, -1, least, api.UbNone},
		{api.EAdd, api.I32, least, -1, 0, api.UbOver},
		{api.EAdd, api.I32, least, least, 0, api.UbOver},
		{api.EAdd, api.I32, least, most, -1, api.UbNone},
		{api.EAdd, api.U32, 2, 3, 5, api.UbNone},
		{api.EAdd, api.U32, most, 1, most + 1, api.UbNone},
		{api.EAdd, api.U32, all - 1, 1, all, api.UbNone},
		{api.EAdd, api.U32, all, 0, all, api.UbNone},
		{api.EAdd, api.U32, all, 1, 0, api.UbNone},
		{api.EAdd, api.U32, all, 2, 1, api.UbNone},
		{api.EAdd, api.U32, all, all, all - 1, api.UbNone},
	})
}

func TestSub(t *testing.T) {
	checkRows(t, "6.1", []row{
		{api.ESub, api.I32, 2, 3, -1, api.UbNone},
		{api.ESub, api.I32, 3, 2, 1, api.UbNone},
		{api.ESub, api.I32, 0, 0, 0, api.UbNone},
		{api.ESub, api.I32, 0, -1, 1, api.UbNone},
		{api.ESub, api.I32, least, 0, least, api.UbNone},
		{api.ESub, api.I32, least + 1, 1, least, api.UbNone},
		{api.ESub, api.I32, least, 1, 0, api.UbOver},
		{api.ESub, api.I32, least, -1, least + 1, api.UbNone},
		{api.ESub, api.I32, most, -1, 0, api.UbOver},
		{api.ESub, api.I32, most - 1, -1, most, api.UbNone},
		{api.ESub, api.I32, most, least, 0, api.UbOver},
		{api.ESub, api.I32, 0, least, 0, api.UbOver},
		{api.ESub, api.I32, -1, least, most, api.UbNone},
		{api.ESub, api.I32, least, least, 0, api.UbNone},
		{api.ESub, api.U32, 3, 2, 1, api.UbNone},
		{api.ESub, api.U32, 2, 2, 0, api.UbNone},
		{api.ESub, api.U32, 1, 2, all, api.UbNone},
		{api.ESub, api.U32, 0, 1, all, api.UbNone},
		{api.ESub, api.U32, 0, all, 1, api.UbNone},
		{api.ESub, api.U32, all, all, 0, api.UbNone},
		{api.ESub, api.U32, all, 0, all, api.UbNone},
		{api.ESub, api.U32, all - 1, all, all, api.UbNone},
	})
}

func TestMul(t *testing.T) {
	checkRows(t, "6.1", []row{
		{api.EMul, api.I32, 6, 7, 42, api.UbNone},
		{api.EMul, api.I32, -6, 7, -42, api.UbNone},
		{api.EMul, api.I32, -6, -7, 42, api.UbNone},
		{api.EMul, api.I32, 0, least, 0, api.UbNone},
		{api.EMul, api.I32, 1, least, least, api.UbNone},
		{api.EMul, api.I32, least, -1, 0, api.UbOver},
		{api.EMul, api.I32, -1, least, 0, api.UbOver},
		{api.EMul, api.I32, least + 1, -1, most, api.UbNone},
		{api.EMul, api.I32, most, -1, -most, api.UbNone},
		{api.EMul, api.I32, 46340, 46340, 2147395600, api.UbNone},
		{api.EMul, api.I32, 46341, 46341, 0, api.UbOver},
		{api.EMul, api.I32, 65536, 32768, 0, api.UbOver},
		{api.EMul, api.I32, -65536, 32768, least, api.UbNone},
		{api.EMul, api.I32, -65536, 32769, 0, api.UbOver},
		{api.EMul, api.I32, 65536, 65536, 0, api.UbOver},
		{api.EMul, api.I32, least, least, 0, api.UbOver},
		{api.EMul, api.I32, most, most, 0, api.UbOver},
		{api.EMul, api.I32, least, most, 0, api.UbOver},
		{api.EMul, api.U32, 6, 7, 42, api.UbNone},
		{api.EMul, api.U32, all, 0, 0, api.UbNone},
		{api.EMul, api.U32, all, 1, all, api.UbNone},
		{api.EMul, api.U32, 65535, 65537, all, api.UbNone},
		{api.EMul, api.U32, 65536, 65536, 0, api.UbNone},
		{api.EMul, api.U32, all, 2, all - 1, api.UbNone},
		{api.EMul, api.U32, all, all, 1, api.UbNone},
		{api.EMul, api.U32, all, all - 1, 2, api.UbNone},
		{api.EMul, api.U32, most + 1, most + 1, 0, api.UbNone},
	})
}

func TestDiv(t *testing.T) {
	checkRows(t, "6.1", []row{
		{api.EDiv, api.I32, 7, 2, 3, api.UbNone},
		{api.EDiv, api.I32, -7, 2, -3, api.UbNone},
		{api.EDiv, api.I32, 7, -2, -3, api.UbNone},
		{api.EDiv, api.I32, -7, -2, 3, api.UbNone},
		{api.EDiv, api.I32, 1, 2, 0, api.UbNone},
		{api.EDiv, api.I32, -1, 2, 0, api.UbNone},
		{api.EDiv, api.I32, 0, 5, 0, api.UbNone},
		{api.EDiv, api.I32, 0, -5, 0, api.UbNone},
		{api.EDiv, api.I32, 1, 0, 0, api.UbDiv},
		{api.EDiv, api.I32, 0, 0, 0, api.UbDiv},
		{api.EDiv, api.I32, least, 0, 0, api.UbDiv},
		{api.EDiv, api.I32, most, 0, 0, api.UbDiv},
		{api.EDiv, api.I32, least, -1, 0, api.UbOver},
		{api.EDiv, api.I32, least + 1, -1, most, api.UbNone},
		{api.EDiv, api.I32, least, 1, least, api.UbNone},
		{api.EDiv, api.I32, least, -2, 1 << 30, api.UbNone},
		{api.EDiv, api.I32, least, least, 1, api.UbNone},
		{api.EDiv, api.I32, least, most, -1, api.UbNone},
		{api.EDiv, api.I32, most, least, 0, api.UbNone},
		{api.EDiv, api.I32, most, -1, -most, api.UbNone},
		{api.EDiv, api.U32, 7, 2, 3, api.UbNone},
		{api.EDiv, api.U32, 1, 0, 0, api.UbDiv},
		{api.EDiv, api.U32, 0, 0, 0, api.UbDiv},
		{api.EDiv, api.U32, all, 0, 0, api.UbDiv},
		{api.EDiv, api.U32, all, 2, most, api.UbNone},
		{api.EDiv, api.U32, all, 1, all, api.UbNone},
		{api.EDiv, api.U32, all, all, 1, api.UbNone},
		{api.EDiv, api.U32, all - 1, all, 0, api.UbNone},
		{api.EDiv, api.U32, most + 1, all, 0, api.UbNone},
	})
}

func TestMod(t *testing.T) {
	checkRows(t, "6.1", []row{
		{api.EMod, api.I32, 7, 2, 1, api.UbNone},
		{api.EMod, api.I32, -7, 2, -1, api.UbNone},
		{api.EMod, api.I32, 7, -2, 1, api.UbNone},
		{api.EMod, api.I32, -7, -2, -1, api.UbNone},
		{api.EMod, api.I32, -6, 3, 0, api.UbNone},
		{api.EMod, api.I32, 0, 5, 0, api.UbNone},
		{api.EMod, api.I32, 5, 1, 0, api.UbNone},
		{api.EMod, api.I32, 5, -1, 0, api.UbNone},
		{api.EMod, api.I32, 1, 0, 0, api.UbDiv},
		{api.EMod, api.I32, 0, 0, 0, api.UbDiv},
		{api.EMod, api.I32, least, 0, 0, api.UbDiv},
		{api.EMod, api.I32, least, -1, 0, api.UbOver},
		{api.EMod, api.I32, least + 1, -1, 0, api.UbNone},
		{api.EMod, api.I32, least, 1, 0, api.UbNone},
		{api.EMod, api.I32, least, most, -1, api.UbNone},
		{api.EMod, api.I32, least, least, 0, api.UbNone},
		{api.EMod, api.I32, most, least, most, api.UbNone},
		{api.EMod, api.I32, least + 1, least, least + 1, api.UbNone},
		{api.EMod, api.I32, least, 10, -8, api.UbNone},
		{api.EMod, api.U32, 7, 2, 1, api.UbNone},
		{api.EMod, api.U32, 1, 0, 0, api.UbDiv},
		{api.EMod, api.U32, all, 0, 0, api.UbDiv},
		{api.EMod, api.U32, all, 10, 5, api.UbNone},
		{api.EMod, api.U32, all, all, 0, api.UbNone},
		{api.EMod, api.U32, all - 1, all, all - 1, api.UbNone},
		{api.EMod, api.U32, most + 1, all, most + 1, api.UbNone},
	})
}

func TestCom(t *testing.T) {
	checkRows(t, "6.1", []row{
		{api.ECom, api.I32, 0, 0, -1, api.UbNone},
		{api.ECom, api.I32, -1, 0, 0, api.UbNone},
		{api.ECom, api.I32, 1, 0, -2, api.UbNone},
		{api.ECom, api.I32, 5, 3, -6, api.UbNone},
		{api.ECom, api.I32, -6, -3, 5, api.UbNone},
		{api.ECom, api.I32, most, 0, least, api.UbNone},
		{api.ECom, api.I32, most - 1, 0, least + 1, api.UbNone},
		{api.ECom, api.I32, least, 0, most, api.UbNone},
		{api.ECom, api.I32, least + 1, 0, most - 1, api.UbNone},
		{api.ECom, api.U32, 0, 0, all, api.UbNone},
		{api.ECom, api.U32, 1, 0, all - 1, api.UbNone},
		{api.ECom, api.U32, 5, 3, all - 5, api.UbNone},
		{api.ECom, api.U32, all, 0, 0, api.UbNone},
		{api.ECom, api.U32, all - 1, 0, 1, api.UbNone},
		{api.ECom, api.U32, most, 0, most + 1, api.UbNone},
	})
}

func TestBits(t *testing.T) {
	checkRows(t, "6.1", []row{
		{api.EAnd, api.I32, 12, 10, 8, api.UbNone},
		{api.EAnd, api.I32, -1, 12, 12, api.UbNone},
		{api.EAnd, api.I32, -8, -3, -8, api.UbNone},
		{api.EAnd, api.I32, -4, 7, 4, api.UbNone},
		{api.EAnd, api.I32, least, most, 0, api.UbNone},
		{api.EAnd, api.I32, least, -1, least, api.UbNone},
		{api.EAnd, api.I32, 0, -1, 0, api.UbNone},
		{api.EAnd, api.U32, 12, 10, 8, api.UbNone},
		{api.EAnd, api.U32, all, most + 1, most + 1, api.UbNone},
		{api.EAnd, api.U32, all, 0, 0, api.UbNone},
		{api.EOr, api.I32, 12, 10, 14, api.UbNone},
		{api.EOr, api.I32, -8, 3, -5, api.UbNone},
		{api.EOr, api.I32, -8, -3, -3, api.UbNone},
		{api.EOr, api.I32, least, most, -1, api.UbNone},
		{api.EOr, api.I32, least, 1, least + 1, api.UbNone},
		{api.EOr, api.I32, 0, 0, 0, api.UbNone},
		{api.EOr, api.U32, 12, 10, 14, api.UbNone},
		{api.EOr, api.U32, most, most + 1, all, api.UbNone},
		{api.EOr, api.U32, all, 0, all, api.UbNone},
		{api.EXor, api.I32, 12, 10, 6, api.UbNone},
		{api.EXor, api.I32, -1, 5, -6, api.UbNone},
		{api.EXor, api.I32, -1, -1, 0, api.UbNone},
		{api.EXor, api.I32, -6, -1, 5, api.UbNone},
		{api.EXor, api.I32, least, most, -1, api.UbNone},
		{api.EXor, api.I32, most, -1, least, api.UbNone},
		{api.EXor, api.I32, 0, least, least, api.UbNone},
		{api.EXor, api.U32, 12, 10, 6, api.UbNone},
		{api.EXor, api.U32, all, 5, all - 5, api.UbNone},
		{api.EXor, api.U32, all, all, 0, api.UbNone},
		{api.EXor, api.U32, most + 1, all, most, api.UbNone},
	})
}

func TestShl(t *testing.T) {
	checkRows(t, "6.1", []row{
		{api.EShl, api.I32, 5, 0, 5, api.UbNone},
		{api.EShl, api.I32, 5, 1, 10, api.UbNone},
		{api.EShl, api.I32, 0, 31, 0, api.UbNone},
		{api.EShl, api.I32, 1, 30, 1 << 30, api.UbNone},
		{api.EShl, api.I32, 1, 31, 0, api.UbOver},
		{api.EShl, api.I32, 2, 30, 0, api.UbOver},
		{api.EShl, api.I32, most, 0, most, api.UbNone},
		{api.EShl, api.I32, most, 1, 0, api.UbOver},
		{api.EShl, api.I32, most, 31, 0, api.UbOver},
		{api.EShl, api.I32, 1<<30 - 1, 1, most - 1, api.UbNone},
		{api.EShl, api.I32, 1 << 30, 1, 0, api.UbOver},
		{api.EShl, api.I32, 127, 24, 127 << 24, api.UbNone},
		{api.EShl, api.I32, 128, 24, 0, api.UbOver},
		{api.EShl, api.I32, -1, 0, 0, api.UbOver},
		{api.EShl, api.I32, -1, 1, 0, api.UbOver},
		{api.EShl, api.I32, -1, 31, 0, api.UbOver},
		{api.EShl, api.I32, least, 0, 0, api.UbOver},
		{api.EShl, api.U32, 5, 0, 5, api.UbNone},
		{api.EShl, api.U32, 5, 1, 10, api.UbNone},
		{api.EShl, api.U32, 1, 31, most + 1, api.UbNone},
		{api.EShl, api.U32, 2, 31, 0, api.UbNone},
		{api.EShl, api.U32, 3, 31, most + 1, api.UbNone},
		{api.EShl, api.U32, all, 1, all - 1, api.UbNone},
		{api.EShl, api.U32, all, 31, most + 1, api.UbNone},
		{api.EShl, api.U32, all, 0, all, api.UbNone},
		{api.EShl, api.U32, most, 1, all - 1, api.UbNone},
	})
}

func TestShr(t *testing.T) {
	checkRows(t, "6.1", []row{
		{api.EShr, api.I32, 5, 0, 5, api.UbNone},
		{api.EShr, api.I32, 5, 1, 2, api.UbNone},
		{api.EShr, api.I32, 5, 3, 0, api.UbNone},
		{api.EShr, api.I32, -5, 0, -5, api.UbNone},
		{api.EShr, api.I32, -5, 1, -3, api.UbNone},
		{api.EShr, api.I32, -1, 1, -1, api.UbNone},
		{api.EShr, api.I32, -1, 31, -1, api.UbNone},
		{api.EShr, api.I32, -8, 2, -2, api.UbNone},
		{api.EShr, api.I32, -9, 2, -3, api.UbNone},
		{api.EShr, api.I32, least, 0, least, api.UbNone},
		{api.EShr, api.I32, least, 1, -1 << 30, api.UbNone},
		{api.EShr, api.I32, least, 31, -1, api.UbNone},
		{api.EShr, api.I32, least + 1, 30, -2, api.UbNone},
		{api.EShr, api.I32, most, 30, 1, api.UbNone},
		{api.EShr, api.I32, most, 31, 0, api.UbNone},
		{api.EShr, api.U32, 5, 1, 2, api.UbNone},
		{api.EShr, api.U32, 1, 1, 0, api.UbNone},
		{api.EShr, api.U32, all, 0, all, api.UbNone},
		{api.EShr, api.U32, all, 1, most, api.UbNone},
		{api.EShr, api.U32, all, 31, 1, api.UbNone},
		{api.EShr, api.U32, most + 1, 31, 1, api.UbNone},
		{api.EShr, api.U32, most, 31, 0, api.UbNone},
	})
}

// TestShiftAheadOfAllElse: how far counts ahead of what is shifted, be it below nought or without room.
func TestShiftAheadOfAllElse(t *testing.T) {
	for _, b := range []int{-1, -31, -32, 32, 33, 63, 64, 65, least, most, all, 1 << 32, 1<<32 + 1, -1 << 32, 1 << 60, math.MinInt, math.MinInt + 1, math.MaxInt} {
		rows := []row{}
		for _, kind := range []int{api.EShl, api.EShr} {
			for _, a := range []int{0, 1, 5, most} {
				rows = append(rows, row{kind, api.I32, a, b, 0, api.UbShift}, row{kind, api.U32, a, b, 0, api.UbShift})
			}
			rows = append(rows, row{kind, api.I32, -1, b, 0, api.UbShift}, row{kind, api.I32, least, b, 0, api.UbShift}, row{kind, api.U32, all, b, 0, api.UbShift})
		}
		checkRows(t, "6.1", rows)
	}
}

func TestExample(t *testing.T) {
	checkRows(t, "6.1", []row{{api.EDiv, api.I32, 1, 0, 0, api.UbDiv}})
}
