package watch

import (
	"slices"
	"testing"

	"calliper/api"
	"calliper/memory"
)

// full has a block of each type and of each size.
func full() *memory.Mem {
	m := memory.New()
	for t := api.I8; t <= api.U32; t++ {
		for _, size := range []int{1, 2, 7, api.MaxSize} {
			id := m.Add(t, size)
			for at := range size {
				m.Set(id, at, 10*t+at)
			}
		}
	}
	return m
}

func upTo(n int) []int {
	var l []int
	for i := range n {
		l = append(l, i)
	}
	return l
}

func without(l []int, n int) []int {
	return slices.DeleteFunc(slices.Clone(l), func(m int) bool { return m == n })
}

// TestAnyChangeIsTold: any one value of any block, alone, among others that may be changed, and where it may be changed itself.
func TestAnyChangeIsTold(t *testing.T) {
	before := full()
	all := upTo(before.Len())
	for id, b := range blocks(before) {
		others := without(all, id)
		for at, old := range b.Vals {
			for _, v := range []int{old + 1, old - 1, 0, -old, old + 128, 1 << 15, 1 << 31} {
				now := before.Copy()
				now.Set(id, at, v)
				if got, _ := now.Get(id, at); got == old {
					continue
				}
				wantChanged(t, "9.3", before, now, all, nil, id)
				wantChanged(t, "9.3", now, before, all, nil, id)
				wantChanged(t, "9.3", before, now, all, others, id)
				wantChanged(t, "9.3", before, now, all, []int{id}, -1)
				wantChanged(t, "9.3", before, now, others, nil, -1)
				// All others are changed too, and may be.
				for _, o := range others {
					now.Set(o, 0, 99)
				}
				wantChanged(t, "9.3", before, now, all, others, id)
				wantChanged(t, "9.3", before, now, all, all, -1)
			}
		}
	}
}

// TestNothingToldMeansNothingChanged: where -1 is told, each block that no one may change is as it was; else what is told is one that was, and ahead of it none was.
func TestNothingToldMeansNothingChanged(t *testing.T) {
	d := dice(9)
	quiet := 0
	for range 5000 {
		before := full()
		now := before.Copy()
		all := upTo(before.Len())
		for range d.roll(5) {
			now.Set(d.roll(len(all)), d.roll(3), d.roll(200))
		}
		var may []int
		for _, id := range all {
			if d.roll(3) > 0 {
				may = append(may, id)
			}
		}
		told := Changed(before, now, all, may)
		if told == -1 {
			quiet++
		}
		for _, id := range without(all, told) {
			a, _ := before.Block(id)
			b, _ := now.Block(id)
			if (told == -1 || id < told) && !slices.Contains(may, id) && !sameBlock(a, b) {
				t.Fatalf("9.3: block %d was %v and is %v, told is %d, may is %v", id, a, b, told, may)
			}
		}
		if a, had := before.Block(told); told != -1 {
			if b, _ := now.Block(told); !had || sameBlock(a, b) || slices.Contains(may, told) {
				t.Fatalf("9.3: block %d is told, it was %v and is %v, may is %v", told, a, b, may)
			}
		}
	}
	if quiet < 500 || quiet > 4500 {
		t.Errorf("9.3: %d of 5000 without a change: the test is none", quiet)
	}
}
