package arith

import (
	"math"
	"testing"

	"calliper/api"
)

// The ends of the types are written out by hand, so that no slip of package typ is shared by these tests.
const (
	least = -2147483648
	most  = 2147483647
	all   = 4294967295
)

// A row is one call of Do and what it is to tell.
type row struct{ kind, t, a, b, v, ub int }

func checkRows(t *testing.T, promise string, rows []row) {
	t.Helper()
	for _, r := range rows {
		v, ub := Do(r.kind, r.t, r.a, r.b)
		if v != r.v || ub != r.ub {
			t.Errorf("%s: Do(%s, %s, %d, %d) = %d, %d, not %d, %d", promise, kindName(r.kind), typeName(r.t), r.a, r.b, v, ub, r.v, r.ub)
		}
	}
}

// names of the kinds of operators, in api's order from ENeg on.
var names = [...]string{"ENeg", "ECom", "EAdd", "ESub", "EMul", "EDiv", "EMod", "EAnd", "EOr", "EXor", "EShl", "EShr"}

func kinds() []int {
	return []int{api.ENeg, api.ECom, api.EAdd, api.ESub, api.EMul, api.EDiv, api.EMod, api.EAnd, api.EOr, api.EXor, api.EShl, api.EShr}
}

func kindName(kind int) string {
	for i, k := range kinds() {
		if k == kind {
			return names[i]
		}
	}
	return "no operator"
}

func typeName(t int) string {
	switch t {
	case api.I32:
		return "I32"
	case api.U32:
		return "U32"
	}
	return "another type"
}

func isShift(kind int) bool {
	return kind == api.EShl || kind == api.EShr
}

// within is In of I32 and U32, said once more.
func within(t, v int) bool {
	if t == api.I32 {
		return least <= v && v <= most
	}
	return t == api.U32 && 0 <= v && v <= all
}

// numbers of a type: its ends and some within, those around nought and around each power of two, and around the roots of its ends.
func numbers(t int) []int {
	vs := []int{}
	take := func(v int) {
		if within(t, v) {
			vs = append(vs, v)
		}
	}
	for d := -2; d <= 2; d++ {
		for _, v := range []int{least, most, all, 0, 1 << 16, -1 << 16, 46341, -46341, 65535, 123456789, -123456789, 3000000000} {
			take(v + d)
		}
	}
	for n := 2; n < 32; n++ {
		for d := -1; d <= 1; d++ {
			take(1<<n + d)
			take(-1<<n + d)
		}
	}
	return vs
}

// shifts are numbers to shift by: all that may be, those next to them, and those far out, some with lower bits that may be.
func shifts() []int {
	vs := []int{}
	for n := -40; n <= 70; n++ {
		vs = append(vs, n)
	}
	return append(vs, outside()...)
}

// outside are numbers that are in neither type, or just in one of them.
func outside() []int {
	return []int{math.MinInt, math.MinInt + 1, math.MinInt + 5, -1 << 60, -1<<32 - 1, -1 << 32, -1<<32 + 5, least - 2, least - 1, least, -1, most + 1, all - 1, all, all + 1, all + 2, 1<<32 + 5, 1 << 60, math.MaxInt - 1, math.MaxInt}
}
