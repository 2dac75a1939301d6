package memory

import (
	"testing"

	"calliper/api"
)

// checkWrong: nothing is told of the place, and Set there changes nothing.
func checkWrong(t *testing.T, m *Mem, id, at int) {
	t.Helper()
	checkNone(t, m, id, at)
	if m.Set(id, at, 99) {
		t.Errorf("7.1: Set(%d, %d), which there is not, is true", id, at)
	}
}

func TestOfNoBlock(t *testing.T) {
	m := filled(t)
	whole := view(t, m)
	for _, id := range append(far(), len(whole), len(whole)+1, -len(whole)) {
		for _, at := range append(far(), 0, 1, most-1, most) {
			checkWrong(t, m, id, at)
		}
		if b, ok := m.Block(id); ok || b.T != 0 || b.Vals != nil {
			t.Errorf("7.1: Block(%d), which there is not, = %v, %v", id, b, ok)
		}
	}
	checkView(t, "7.1", m, whole)
}

func TestOfNoPlace(t *testing.T) {
	for size := 1; size <= most; size++ {
		m := New()
		// The blocks beside it are such that a place counted on from one into the next would be there.
		m.Add(api.I32, most)
		m.Add(api.I32, size)
		m.Add(api.I32, most)
		whole := view(t, m)
		for _, at := range append(far(), size, size+1, -size, most, 2*most) {
			checkWrong(t, m, 1, at)
		}
		checkView(t, "7.1", m, whole)
		checkSet(t, m, 1, size-1, 5)
		checkSet(t, m, 1, 0, 5)
	}
}

func TestOfNil(t *testing.T) {
	var m *Mem
	for _, n := range append(far(), 0, 1, 2, most) {
		for _, at := range append(far(), 0, 1) {
			checkWrong(t, m, n, at)
			if id := m.Add(n, at); id != -1 {
				t.Errorf("7.1: Add(%d, %d) of nil = %d", n, at, id)
			}
		}
		if b, ok := m.Block(n); ok || b.T != 0 || b.Vals != nil {
			t.Errorf("7.1: Block(%d) of nil = %v, %v", n, b, ok)
		}
		m.Cut(n)
		if m.Len() != 0 {
			t.Errorf("7.1: Len of nil is %d behind Cut(%d)", m.Len(), n)
		}
	}
	for _, k := range kinds() {
		if id := m.Add(k.t, 1); id != -1 {
			t.Errorf("7.1: Add(%d, 1) of nil = %d", k.t, id)
		}
	}
	if c := m.Copy(); c != nil {
		t.Errorf("7.1: Copy of nil = %v", c)
	}
}
