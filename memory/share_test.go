package memory

import (
	"slices"
	"testing"

	"calliper/api"
)

// TestBlockIsACopy: what Block told may be spoilt, spare room too.
func TestBlockIsACopy(t *testing.T) {
	m := filled(t)
	whole := view(t, m)
	for id := range m.Len() {
		first, _ := m.Block(id)
		second, _ := m.Block(id)
		kept := slices.Clone(second.Vals)
		overwrite(first.Vals)
		if !slices.Equal(second.Vals, kept) {
			t.Errorf("7.1: two answers of Block(%d) share memory", id)
		}
		if third, _ := m.Block(id); !slices.Equal(third.Vals, kept) {
			t.Errorf("7.1: Block(%d) is %v, not %v: what is kept was spoilt", id, third.Vals, kept)
		}
		overwrite(second.Vals)
	}
	checkView(t, "7.1", m, whole)
}

// TestBlockStays: what Block told does not go on with the memory.
func TestBlockStays(t *testing.T) {
	m := New()
	m.Add(api.I32, 3)
	checkSet(t, m, 0, 1, 5)
	b, _ := m.Block(0)
	checkSet(t, m, 0, 1, 6)
	checkSet(t, m, 0, 0, 7)
	m.Cut(0)
	m.Add(api.I32, 3)
	if !equal(b, api.Block{T: api.I32, Vals: []int{0, 5, 0}}) {
		t.Errorf("7.1: a block that was told is %v now", b)
	}
}

func TestCopyIsTheSame(t *testing.T) {
	m := filled(t)
	whole := view(t, m)
	c := m.Copy()
	if c == nil || c == m {
		t.Fatal("7.1: Copy is not another one")
	}
	checkView(t, "7.1", c, whole)
	checkView(t, "7.1", c.Copy(), whole)
	checkView(t, "7.1", m, whole)
}

func TestCopyOfNoBlocks(t *testing.T) {
	m := New()
	c := m.Copy()
	if c == nil || c == m || c.Len() != 0 {
		t.Fatalf("7.1: the Copy of a memory without blocks is %v", c)
	}
	if c.Add(api.I8, 2) != 0 || c.Len() != 1 || m.Len() != 0 {
		t.Errorf("7.1: Add to a Copy: Len %d, and %d of the other", c.Len(), m.Len())
	}
}

// turns are what may be done to a memory.
func turns() []func(m *Mem) {
	return []func(m *Mem){
		func(m *Mem) { m.Add(api.U32, 4) },
		func(m *Mem) {
			for range 40 {
				m.Set(m.Add(api.U8, 2), 1, 9)
			}
		},
		func(m *Mem) {
			for id := range m.Len() {
				for at := range most {
					m.Set(id, at, 99)
				}
			}
		},
		func(m *Mem) { m.Set(0, 0, 3) },
		func(m *Mem) { m.Cut(0) },
		func(m *Mem) { m.Cut(m.Len() - 1) },
		func(m *Mem) {
			m.Cut(3)
			for range 5 {
				m.Set(m.Add(api.I16, most), 0, 44)
			}
		},
	}
}

// TestCopiesDoNotTouch: whichever of the two is turned, the other stays as it was.
func TestCopiesDoNotTouch(t *testing.T) {
	for _, cut := range []int{1000, 4} {
		for i, turn := range turns() {
			m := filled(t)
			m.Cut(cut)
			whole := view(t, m)
			c := m.Copy()
			turn(c)
			checkView(t, "7.1", m, whole)
			changed := view(t, c)
			if slices.EqualFunc(changed, whole, equal) {
				t.Errorf("7.1: turn %d does nothing to a Copy", i)
			}
			d := m.Copy()
			turn(m)
			checkView(t, "7.1", c, changed)
			checkView(t, "7.1", d, whole)
			// R5: the same calls tell the same.
			checkView(t, "R5", m, changed)
		}
	}
}

// TestCopiesAddSideBySide: both grow from where they were cut, each on its own.
func TestCopiesAddSideBySide(t *testing.T) {
	m := filled(t)
	m.Cut(2)
	c := m.Copy()
	base := view(t, m)
	if m.Add(api.I8, 1) != 2 || c.Add(api.U16, 3) != 2 {
		t.Error("7.1: Ids of two that were the same")
	}
	checkSet(t, m, 2, 0, 1)
	checkSet(t, c, 2, 2, 7)
	checkView(t, "7.1", m, append(base[:2:2], api.Block{T: api.I8, Vals: []int{1}}))
	checkView(t, "7.1", c, append(base[:2:2], api.Block{T: api.U16, Vals: []int{0, 0, 7}}))
}

// TestTwoMemories: R5, of two that were made on their own.
func TestTwoMemories(t *testing.T) {
	a, b := New(), New()
	if a == b {
		t.Fatal("R5: New tells one memory twice")
	}
	if a.Add(api.I8, 2) != 0 || a.Add(api.I8, 2) != 1 || b.Add(api.U32, 1) != 0 {
		t.Error("R5: Ids of two memories")
	}
	checkSet(t, a, 0, 0, 5)
	checkSet(t, b, 0, 0, 6)
	checkView(t, "R5", a, []api.Block{{T: api.I8, Vals: []int{5, 0}}, {T: api.I8, Vals: []int{0, 0}}})
	checkView(t, "R5", b, []api.Block{{T: api.U32, Vals: []int{6}}})
	b.Cut(0)
	if a.Len() != 2 || b.Len() != 0 {
		t.Errorf("R5: Len %d and %d", a.Len(), b.Len())
	}
}
