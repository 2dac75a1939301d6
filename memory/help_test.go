package memory

import (
	"math"
	"slices"
	"testing"

	"calliper/api"
)

// most is the most places of a block, written out so that no slip of the package is shared by its tests.
const most = 16

// A kind is a type and what a value becomes in it, by Go's own conversions.
type kind struct {
	t    int
	wrap func(v int) int
}

func kinds() []kind {
	return []kind{
		{api.I8, func(v int) int { return int(int8(v)) }},
		{api.U8, func(v int) int { return int(uint8(v)) }},
		{api.I16, func(v int) int { return int(int16(v)) }},
		{api.U16, func(v int) int { return int(uint16(v)) }},
		{api.I32, func(v int) int { return int(int32(v)) }},
		{api.U32, func(v int) int { return int(uint32(v)) }},
	}
}

// nones are numbers that are no type, some with lower bits of one.
func nones() []int {
	return []int{0, 7, 8, 99, -1, -6, 256 + api.I8, 1<<32 + api.U32, math.MaxInt, math.MinInt, math.MinInt + api.I32}
}

// allTypes are types and numbers that are none, by turns, so that the first few have both.
func allTypes() []int {
	ts, ks := []int{}, kinds()
	for i, n := range nones() {
		if i < len(ks) {
			ts = append(ts, ks[i].t)
		}
		ts = append(ts, n)
	}
	return ts
}

// wrapped is what a value becomes in a block of type t; nought, if t is none.
func wrapped(t, v int) int {
	for _, k := range kinds() {
		if k.t == t {
			return k.wrap(v)
		}
	}
	return 0
}

// values within and beyond each type: around each power of two, and the ends of int.
func values() []int {
	vs := []int{math.MinInt, math.MinInt + 1, math.MaxInt - 1, math.MaxInt, 40000, 123456789012345, -123456789012345}
	for n := range 63 {
		for d := -1; d <= 1; d++ {
			vs = append(vs, 1<<n+d, -1<<n+d, 3<<n+d)
		}
	}
	return vs
}

// far are numbers below nought and far out; none of them is an Id or a place here, and some have lower bits of one.
func far() []int {
	return []int{-1, -2, -3, -most, -most - 1, -1 << 31, -1 << 32, math.MinInt, math.MinInt + 1, 100, 256, 1 << 16, 1 << 31, 1 << 32, 1<<32 + 1, 1 << 62, math.MaxInt}
}

// view is all that the calls tell of a memory: each block, by Block; it is held against Get and Len.
func view(t *testing.T, m *Mem) []api.Block {
	t.Helper()
	bs := []api.Block{}
	for id := range m.Len() {
		b, ok := m.Block(id)
		if !ok || len(b.Vals) < 1 || len(b.Vals) > most {
			t.Fatalf("7.1: Block(%d) of %d = %v, %v", id, m.Len(), b, ok)
		}
		for at, want := range b.Vals {
			if v, ok := m.Get(id, at); !ok || v != want {
				t.Fatalf("7.1: Get(%d, %d) = %d, %v, though Block has %d there", id, at, v, ok, want)
			}
		}
		checkNone(t, m, id, len(b.Vals))
		bs = append(bs, b)
	}
	if b, ok := m.Block(m.Len()); ok || b.T != 0 || b.Vals != nil {
		t.Fatalf("7.1: Block behind the end, %d, = %v, %v", m.Len(), b, ok)
	}
	return bs
}

// checkNone: Get tells of a place that there is none.
func checkNone(t *testing.T, m *Mem, id, at int) {
	t.Helper()
	if v, ok := m.Get(id, at); ok || v != 0 {
		t.Errorf("7.1: Get(%d, %d), which there is not, = %d, %v", id, at, v, ok)
	}
}

func equal(a, b api.Block) bool {
	return a.T == b.T && slices.Equal(a.Vals, b.Vals)
}

func checkView(t *testing.T, promise string, m *Mem, want []api.Block) {
	t.Helper()
	if got := view(t, m); !slices.EqualFunc(got, want, equal) {
		t.Errorf("%s: the memory is %v, not %v", promise, got, want)
	}
}

func checkSet(t *testing.T, m *Mem, id, at, v int) {
	t.Helper()
	if !m.Set(id, at, v) {
		t.Errorf("7.1: Set(%d, %d, %d) is false", id, at, v)
	}
}

// filled is a memory of one block of each type, and of some that are none, of all sizes; no two places of it have one value where the type can tell them apart.
func filled(t *testing.T) *Mem {
	t.Helper()
	m := New()
	n := 0
	for i, typ := range allTypes() {
		size := 1 + (i*7)%most
		id := m.Add(typ, size)
		for at := range size {
			n++
			checkSet(t, m, id, at, n)
		}
	}
	return m
}

// overwrite spoils a list that was told, and what spare room it has.
func overwrite(vals []int) {
	for _, l := range [][]int{vals[:cap(vals)], append(vals, 77), append(vals[:0], 77)} {
		for i := range l {
			l[i] = 77
		}
	}
}
