package arith

import (
	"math/big"
	"testing"

	"calliper/api"
)

// second is Do, reckoned once more from the chapter's words with numbers of any length; a and b are such that Do takes them.
func second(kind, t, a, b int) (int, int) {
	x, y, z := big.NewInt(int64(a)), big.NewInt(int64(b)), new(big.Int)
	switch kind {
	case api.ENeg:
		z.Neg(x)
	case api.EAdd:
		z.Add(x, y)
	case api.ESub:
		z.Sub(x, y)
	case api.EMul:
		z.Mul(x, y)
	case api.EDiv, api.EMod:
		return secondCut(kind, t, a, b)
	case api.ECom, api.EAnd, api.EOr, api.EXor:
		return secondBits(kind, t, a, b), api.UbNone
	case api.EShl, api.EShr:
		if b < 0 || b > 31 {
			return 0, api.UbShift
		}
		two := new(big.Int).Exp(big.NewInt(2), y, nil)
		if kind == api.EShr {
			// Div of big numbers leaves a rest that is never below nought: above nought it rounds down.
			return int(z.Div(x, two).Int64()), api.UbNone
		}
		if t == api.I32 && a < 0 {
			return 0, api.UbOver
		}
		z.Mul(x, two)
	}
	if t == api.U32 {
		return int(z.Mod(z, big.NewInt(all+1)).Int64()), api.UbNone
	}
	if z.Cmp(big.NewInt(least)) < 0 || z.Cmp(big.NewInt(most)) > 0 {
		return 0, api.UbOver
	}
	return int(z.Int64()), api.UbNone
}

// secondCut divides what is without signs, and gives the quotient and the rest their signs behind that.
func secondCut(kind, t, a, b int) (int, int) {
	if b == 0 {
		return 0, api.UbDiv
	}
	if t == api.I32 && a == least && b == -1 {
		return 0, api.UbOver
	}
	size := func(v int) int { return max(v, -v) }
	v := size(a) / size(b)
	if kind == api.EMod {
		v = size(a) - v*size(b)
	}
	if kind == api.EMod && a < 0 || kind == api.EDiv && (a < 0) != (b < 0) {
		v = -v
	}
	return v, api.UbNone
}

// secondBits goes bit by bit, the highest of I32 counting as what it takes away.
func secondBits(kind, t, a, b int) int {
	v := 0
	for n := range 32 {
		x, y := uint64(a)>>n&1 == 1, uint64(b)>>n&1 == 1
		is := false
		switch kind {
		case api.ECom:
			is = !x
		case api.EAnd:
			is = x && y
		case api.EOr:
			is = x || y
		case api.EXor:
			is = x != y
		}
		switch {
		case is && n == 31 && t == api.I32:
			v -= 1 << n
		case is:
			v += 1 << n
		}
	}
	return v
}

// eachCall goes through all kinds and types, and for each all pairs of the numbers that it takes.
func eachCall(do func(kind, t, a, b int)) {
	for _, t := range []int{api.I32, api.U32} {
		as := numbers(t)
		for _, kind := range kinds() {
			bs := as
			if isShift(kind) {
				bs = shifts()
			}
			for _, a := range as {
				for _, b := range bs {
					do(kind, t, a, b)
				}
			}
		}
	}
}

func TestAgainstASecondReckoning(t *testing.T) {
	eachCall(func(kind, typ, a, b int) {
		v, ub := second(kind, typ, a, b)
		checkRows(t, "6.1", []row{{kind, typ, a, b, v, ub}})
	})
}

func TestSmallNumbersAgainstASecondReckoning(t *testing.T) {
	for _, typ := range []int{api.I32, api.U32} {
		for _, kind := range kinds() {
			for a := -70; a <= 70; a++ {
				for b := -70; b <= 70; b++ {
					if within(typ, a) && (within(typ, b) || isShift(kind)) {
						v, ub := second(kind, typ, a, b)
						checkRows(t, "6.1", []row{{kind, typ, a, b, v, ub}})
					}
				}
			}
		}
	}
}

// TestKindsOfUb: each kind of operator has just the undefined behaviour that the chapter gives it, and has it at some numbers.
func TestKindsOfUb(t *testing.T) {
	seen := map[[3]int]int{}
	eachCall(func(kind, typ, a, b int) {
		_, ub := Do(kind, typ, a, b)
		seen[[3]int{kind, typ, ub}]++
	})
	want := func(kind, typ, ub int) bool {
		switch ub {
		case api.UbOver:
			plain := kind == api.ENeg || kind == api.EAdd || kind == api.ESub || kind == api.EMul
			return typ == api.I32 && (plain || kind == api.EDiv || kind == api.EMod || kind == api.EShl)
		case api.UbDiv:
			return kind == api.EDiv || kind == api.EMod
		case api.UbShift:
			return isShift(kind)
		}
		return ub == api.UbNone
	}
	for _, typ := range []int{api.I32, api.U32} {
		for _, kind := range kinds() {
			for ub := -1; ub <= api.UbIndex+1; ub++ {
				if has := seen[[3]int{kind, typ, ub}] > 0; has != want(kind, typ, ub) {
					t.Errorf("6.1: %s of %s tells kind %d of undefined behaviour: %v", kindName(kind), typeName(typ), ub, has)
				}
			}
		}
	}
}

func TestWhatIsToldIsIn(t *testing.T) {
	check := func(kind, typ, a, b int) {
		v, ub := Do(kind, typ, a, b)
		if !within(typ, v) {
			t.Errorf("6.2: Do(%s, %s, %d, %d) = %d, which is not In", kindName(kind), typeName(typ), a, b, v)
		}
		if ub != api.UbNone && v != 0 {
			t.Errorf("6.1: Do(%s, %s, %d, %d) = %d beside %d, not 0", kindName(kind), typeName(typ), a, b, v, ub)
		}
	}
	eachCall(check)
	for _, typ := range []int{api.I32, api.U32} {
		for _, kind := range append(kinds(), 0, -1, api.ENum, api.ECast, 99) {
			for _, a := range append(outside(), 0, 1, most) {
				for _, b := range append(outside(), 0, 1, 31) {
					check(kind, typ, a, b)
				}
			}
		}
	}
}

// TestOfOneArgument: b has no say in what is told of ENeg and ECom.
func TestOfOneArgument(t *testing.T) {
	for _, typ := range []int{api.I32, api.U32} {
		for _, kind := range []int{api.ENeg, api.ECom} {
			for _, a := range numbers(typ) {
				v, ub := Do(kind, typ, a, 0)
				for _, b := range numbers(typ) {
					checkRows(t, "6.1", []row{{kind, typ, a, b, v, ub}})
				}
			}
		}
	}
}
