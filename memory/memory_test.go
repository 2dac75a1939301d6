package memory

import (
	"math"
	"testing"

	"calliper/api"
)

func TestNewHasNoBlocks(t *testing.T) {
	m := New()
	if m == nil || m.Len() != 0 {
		t.Fatalf("7.1: New is %v", m)
	}
	checkView(t, "7.1", m, nil)
	checkNone(t, m, 0, 0)
	if m.Set(0, 0, 1) {
		t.Error("7.1: Set of a memory without blocks")
	}
}

func TestExample(t *testing.T) {
	m := New()
	if id := m.Add(api.I32, 1); id != 0 {
		t.Errorf("7.1: the first Id is %d", id)
	}
	if v, ok := m.Get(0, 0); !ok || v != 0 {
		t.Errorf("7.1: Get of place 0 = %d, %v", v, ok)
	}
}

func TestAddSizes(t *testing.T) {
	m := New()
	for id, c := range []struct{ size, want int }{
		{1, 1}, {2, 2}, {3, 3}, {15, 15}, {16, 16},
		{0, 1}, {-1, 1}, {-16, 1}, {-1 << 32, 1}, {-1<<32 + 5, 1}, {math.MinInt, 1}, {math.MinInt + 5, 1},
		{17, 16}, {18, 16}, {99, 16}, {1 << 31, 16}, {1 << 32, 16}, {1<<32 + 5, 16}, {1 << 62, 16}, {math.MaxInt, 16},
	} {
		if got := m.Add(api.I16, c.size); got != id || m.Len() != id+1 {
			t.Errorf("7.1: Add of size %d = %d, Len %d, not %d", c.size, got, m.Len(), id)
		}
		b, ok := m.Block(id)
		if !ok || !equal(b, api.Block{T: api.I16, Vals: make([]int, c.want)}) {
			t.Errorf("7.1: Add of size %d made %v, %v, not %d noughts", c.size, b, ok, c.want)
		}
	}
	view(t, m)
}

func TestAddTypes(t *testing.T) {
	m := New()
	for id, typ := range allTypes() {
		if got := m.Add(typ, 2); got != id {
			t.Errorf("7.1: Add of type %d = %d, not %d", typ, got, id)
		}
		b, ok := m.Block(id)
		if !ok || !equal(b, api.Block{T: typ, Vals: []int{0, 0}}) {
			t.Errorf("7.1: Add of type %d made %v, %v", typ, b, ok)
		}
	}
	view(t, m)
}

func TestAddMany(t *testing.T) {
	m := New()
	for id := range 20000 {
		if got := m.Add(api.U16, id%3); got != id {
			t.Fatalf("7.1: Add = %d, not %d", got, id)
		}
		checkSet(t, m, id, 0, id)
	}
	for id := range 20000 {
		if v, ok := m.Get(id, 0); !ok || v != id {
			t.Fatalf("7.1: Get(%d, 0) = %d, %v behind many Adds", id, v, ok)
		}
	}
}

func TestSetWraps(t *testing.T) {
	for _, c := range []struct{ t, v, want int }{
		{api.I8, 127, 127}, {api.I8, 128, -128}, {api.I8, 200, -56}, {api.I8, -128, -128}, {api.I8, -129, 127},
		{api.U8, 255, 255}, {api.U8, 256, 0}, {api.U8, 257, 1}, {api.U8, -1, 255},
		{api.I16, 32767, 32767}, {api.I16, 40000, -25536}, {api.I16, -32769, 32767},
		{api.U16, 65535, 65535}, {api.U16, 65536, 0}, {api.U16, -1, 65535},
		{api.I32, 2147483647, 2147483647}, {api.I32, 2147483648, -2147483648}, {api.I32, -2147483649, 2147483647},
		{api.U32, 4294967295, 4294967295}, {api.U32, 4294967296, 0}, {api.U32, -1, 4294967295},
		{0, 5, 0}, {7, 1, 0}, {-1, -1, 0},
	} {
		m := New()
		checkSet(t, m, m.Add(c.t, 1), 0, c.v)
		if v, ok := m.Get(0, 0); !ok || v != c.want {
			t.Errorf("7.1: Set of %d in type %d: %d, %v, not %d", c.v, c.t, v, ok, c.want)
		}
	}
}

func TestSetOfEveryTypeAndPlace(t *testing.T) {
	for _, typ := range allTypes() {
		m := New()
		m.Add(typ, most)
		for i, v := range values() {
			checkSet(t, m, 0, i%most, v)
			if got, ok := m.Get(0, i%most); !ok || got != wrapped(typ, v) {
				t.Errorf("7.1: Set of %d in type %d: %d, %v, not %d", v, typ, got, ok, wrapped(typ, v))
			}
		}
		view(t, m)
	}
}

func TestSetAgain(t *testing.T) {
	m := New()
	m.Add(api.I8, 2)
	for _, v := range []int{5, 0, -5, 300, -128} {
		checkSet(t, m, 0, 1, v)
		checkView(t, "7.1", m, []api.Block{{T: api.I8, Vals: []int{0, int(int8(v))}}})
	}
}

func TestCut(t *testing.T) {
	whole := view(t, filled(t))
	for _, c := range []struct{ n, want int }{
		{math.MinInt, 0}, {math.MinInt + 3, 0}, {-1 << 32, 0}, {-2, 0}, {-1, 0}, {0, 0}, {1, 1}, {2, 2}, {5, 5},
		{len(whole) - 1, len(whole) - 1}, {len(whole), len(whole)}, {len(whole) + 1, len(whole)}, {1000, len(whole)}, {1<<32 + 1, len(whole)}, {math.MaxInt, len(whole)},
	} {
		m := filled(t)
		m.Cut(c.n)
		if m.Len() != c.want {
			t.Errorf("7.1: Cut(%d) of %d leaves %d, not %d", c.n, len(whole), m.Len(), c.want)
		}
		checkView(t, "7.1", m, whole[:c.want])
		for id := c.want; id < len(whole); id++ {
			checkNone(t, m, id, 0)
			if b, ok := m.Block(id); ok || b.T != 0 || b.Vals != nil {
				t.Errorf("7.1: Block(%d) is there behind Cut(%d): %v, %v", id, c.n, b, ok)
			}
			if m.Set(id, 0, 1) {
				t.Errorf("7.1: Set(%d, 0) is true behind Cut(%d)", id, c.n)
			}
		}
	}
}

func TestAddBehindCut(t *testing.T) {
	for n := range 6 {
		m := filled(t)
		whole := view(t, m)
		m.Cut(n)
		want := whole[:n:n]
		for i := range 8 {
			if id := m.Add(api.U8, most-i); id != n+i {
				t.Errorf("7.1: Add behind Cut(%d) = %d, not %d", n, id, n+i)
			}
			want = append(want, api.Block{T: api.U8, Vals: make([]int, most-i)})
			checkView(t, "7.1", m, want)
		}
	}
}

func TestCutAgain(t *testing.T) {
	m := filled(t)
	whole := view(t, m)
	for _, n := range []int{9, 6, 8, 6, 2, 3, 0, 4} {
		m.Cut(n)
		whole = whole[:min(n, len(whole))]
		checkView(t, "7.1", m, whole)
	}
	if id := m.Add(api.I8, 1); id != 0 {
		t.Errorf("7.1: Add behind Cut(0) = %d", id)
	}
	// What was cut does not come back with a greater Cut.
	m.Cut(3)
	if m.Len() != 1 {
		t.Errorf("7.1: Len %d behind a Cut of more than there are", m.Len())
	}
}

// TestCutLetsGo: of what is cut nothing is kept.
func TestCutLetsGo(t *testing.T) {
	m := filled(t)
	m.Cut(2)
	for id, b := range m.blocks[:cap(m.blocks)] {
		if id >= 2 && (b.T != 0 || b.Vals != nil) {
			t.Errorf("7.1: behind Cut(2) block %d is kept: %v", id, b)
		}
	}
}

// TestBlocksStandInASlice: chapter 7's Ways.
func TestBlocksStandInASlice(t *testing.T) {
	m := filled(t)
	var blocks []api.Block = m.blocks
	if len(blocks) != m.Len() {
		t.Errorf("7: %d blocks in the slice, Len %d", len(blocks), m.Len())
	}
}
