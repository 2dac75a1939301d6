package memory

import (
	"testing"

	"calliper/api"
)

// A second is a memory once more, made of nothing but values: a row of places for each block.
type second struct {
	n     int
	t     [40]int
	size  [40]int
	place [40][most]int
}

func (s *second) add(t, size int) {
	s.t[s.n], s.size[s.n], s.place[s.n] = t, min(max(size, 1), most), [most]int{}
	s.n++
}

func (s *second) has(id, at int) bool {
	return id >= 0 && id < s.n && at >= 0 && at < s.size[id]
}

func (s *second) blocks() []api.Block {
	bs := []api.Block{}
	for id := range s.n {
		bs = append(bs, api.Block{T: s.t[id], Vals: append([]int{}, s.place[id][:s.size[id]]...)})
	}
	return bs
}

// dice throws numbers that are the same in each run.
func dice() func(n int) int {
	x := uint32(12345)
	return func(n int) int {
		x = x*1664525 + 1013904223
		return int(x>>8) % n
	}
}

// TestSetTouchesOnePlaceAlone: each place of each block, set in turn.
func TestSetTouchesOnePlaceAlone(t *testing.T) {
	whole := view(t, filled(t))
	for id, b := range whole {
		for at := range b.Vals {
			m := filled(t)
			v := b.Vals[at] + 100
			checkSet(t, m, id, at, v)
			// The place is set in what the other one told, and set back behind that.
			old := b.Vals[at]
			b.Vals[at] = wrapped(b.T, v)
			checkView(t, "7.2", m, whole)
			b.Vals[at] = old
		}
	}
}

// TestAgainstASecond: long runs of all calls, with a copy that is changed for the memory now and then.
func TestAgainstASecond(t *testing.T) {
	throw := dice()
	types, vs := allTypes(), values()
	for range 60 {
		m, s := New(), &second{}
		other, os := m.Copy(), *s
		for range 150 {
			id, at, v := throw(s.n+2)-1, throw(most+2)-1, vs[throw(len(vs))]
			switch throw(12) {
			case 0, 1, 2:
				if s.n == len(s.t) {
					continue
				}
				typ, size := types[throw(len(types))], throw(most+4)-1
				if got := m.Add(typ, size); got != s.n {
					t.Fatalf("7.1: Add = %d, not %d", got, s.n)
				}
				s.add(typ, size)
			case 3:
				m.Cut(id)
				s.n = min(s.n, max(id, 0))
			case 4:
				other, os = m.Copy(), *s
			case 5:
				was := *s
				m, *s, other, os = other, os, m, was
			default:
				if got, want := m.Set(id, at, v), s.has(id, at); got != want {
					t.Fatalf("7.1: Set(%d, %d) is %v", id, at, got)
				}
				if s.has(id, at) {
					s.place[id][at] = wrapped(s.t[id], v)
				}
			}
			checkView(t, "7.2", m, s.blocks())
			checkView(t, "7.1", other, os.blocks())
		}
	}
}
