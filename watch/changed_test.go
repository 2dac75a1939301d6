package watch

import (
	"reflect"
	"slices"
	"testing"

	"calliper/api"
	"calliper/memory"
)

func TestChangedByHand(t *testing.T) {
	const was = "u8:1,2,3 i32:5 i16:-1,0 u32:7 u8:1"
	all := []int{0, 1, 2, 3, 4}
	for _, c := range []struct {
		now      string
		ids, may []int
		want     int
	}{
		{was, all, nil, -1}, {was, all, all, -1}, {was, nil, nil, -1}, {was, nil, all, -1},
		// One place of one block.
		{"u8:9,2,3 i32:5 i16:-1,0 u32:7 u8:1", all, nil, 0}, {"u8:1,9,3 i32:5 i16:-1,0 u32:7 u8:1", all, nil, 0}, {"u8:1,2,9 i32:5 i16:-1,0 u32:7 u8:1", all, nil, 0},
		{"u8:1,2,3 i32:6 i16:-1,0 u32:7 u8:1", all, nil, 1}, {"u8:1,2,3 i32:5 i16:-1,1 u32:7 u8:1", all, nil, 2}, {"u8:1,2,3 i32:5 i16:-1,0 u32:7 u8:0", all, nil, 4},
		{"u8:2,1,3 i32:5 i16:-1,0 u32:7 u8:1", all, nil, 0}, {"u8:1,2,3 i32:-5 i16:-1,0 u32:7 u8:1", all, nil, 1},
		{"u8:1,2,3 i32:6 i16:-1,0 u32:7 u8:1", []int{0, 2, 3, 4}, nil, -1}, {"u8:1,2,3 i32:6 i16:-1,0 u32:7 u8:1", []int{1}, nil, 1}, {"u8:1,2,3 i32:6 i16:-1,0 u32:7 u8:1", nil, nil, -1},
		// Several: the first of ids, not of the memory.
		{"u8:1,2,4 i32:5 i16:-1,1 u32:7 u8:9", all, nil, 0}, {"u8:1,2,4 i32:5 i16:-1,1 u32:7 u8:9", []int{4, 3, 2, 1, 0}, nil, 4}, {"u8:1,2,4 i32:5 i16:-1,1 u32:7 u8:9", []int{1, 3, 2, 0, 4}, nil, 2}, {"u8:1,2,4 i32:5 i16:-1,1 u32:7 u8:9", []int{3, 1}, nil, -1},
		// Those of may are passed over, however often they stand there.
		{"u8:1,2,4 i32:5 i16:-1,1 u32:7 u8:9", all, []int{0}, 2}, {"u8:1,2,4 i32:5 i16:-1,1 u32:7 u8:9", all, []int{2, 0}, 4}, {"u8:1,2,4 i32:5 i16:-1,1 u32:7 u8:9", all, []int{0, 0, 4, 2, 2}, -1}, {"u8:1,2,4 i32:5 i16:-1,1 u32:7 u8:9", all, []int{1, 3}, 0}, {"u8:1,2,4 i32:5 i16:-1,1 u32:7 u8:9", all, all, -1}, {"u8:1,2,4 i32:5 i16:-1,1 u32:7 u8:9", []int{4, 3, 2, 1, 0}, []int{4, 4}, 2},
		// Ids that stand there twice.
		{"u8:1,2,3 i32:6 i16:-1,1 u32:7 u8:1", []int{0, 0, 2, 1, 1, 2}, nil, 2}, {"u8:1,2,3 i32:6 i16:-1,1 u32:7 u8:1", []int{2, 2, 1, 2}, []int{2}, 1}, {"u8:1,2,3 i32:6 i16:-1,1 u32:7 u8:1", []int{1, 1, 1}, []int{1}, -1},
		// Another type, another length.
		{"i8:1,2,3 i32:5 i16:-1,0 u32:7 u8:1", all, nil, 0}, {"u8:1,2,3 u32:5 i16:-1,0 u32:7 u8:1", all, nil, 1}, {"u8:1,2,3 i32:5 i16:-1 u32:7 u8:1", all, nil, 2}, {"u8:1,2,3 i32:5 i16:-1,0,0 u32:7 u8:1", all, nil, 2}, {"u8:1,2,3 i32:5 i16:-1,0 u32:7 u8:1,0", all, nil, 4}, {"u8:1,2,3 i32:5 i16:-1,0 u32:7 u8:1,0", all, []int{4}, -1},
		// There in one alone.
		{"u8:1,2,3 i32:5 i16:-1,0 u32:7", all, nil, 4}, {"u8:1,2,3 i32:5 i16:-1,0 u32:7", all, []int{4}, -1}, {"u8:1,2,3 i32:5 i16:-1,0 u32:7", []int{3, 2, 1, 0}, nil, -1}, {"u8:1,2,3 i32:5", []int{0, 3, 2, 4}, nil, 3}, {"u8:1,2,3 i32:5", []int{0, 3, 2, 4}, []int{3}, 2}, {"", all, nil, 0}, {"nil", all, nil, 0}, {"nil", all, []int{0, 1}, 2}, {"nil", all, all, -1}, {"nil", nil, nil, -1},
		{was + " u8:0", all, nil, -1}, {was + " u8:0", append([]int{5}, all...), nil, 5}, {was + " u8:0", []int{0, 5}, []int{5}, -1},
	} {
		// It is the same the other way round.
		wantChanged(t, "9.2", mem(was), mem(c.now), c.ids, c.may, c.want)
		wantChanged(t, "9.2", mem(c.now), mem(was), c.ids, c.may, c.want)
	}
}

func TestBlocksThatNeitherHas(t *testing.T) {
	var no *memory.Mem
	a := mem("u8:1,2 i32:5")
	b := mem("u8:1,3 i32:5")
	ids := append(far(), 2, 3)
	for _, m := range []*memory.Mem{no, memory.New(), a} {
		wantChanged(t, "9.2", m, m, ids, nil, -1)
		wantChanged(t, "9.2", m, m.Copy(), append(ids, 0, 1), nil, -1)
		wantChanged(t, "9.2", m, b, ids, nil, -1)
		wantChanged(t, "9.2", b, m, ids, nil, -1)
	}
	wantChanged(t, "9.2", no, memory.New(), append(ids, 0, 1), nil, -1)
	wantChanged(t, "9.2", memory.New(), no, append(ids, 0, 1), nil, -1)
	for _, id := range ids {
		// Ahead of one that was changed, and as what may be.
		wantChanged(t, "9.2", a, b, []int{id, 0}, nil, 0)
		wantChanged(t, "9.2", a, b, []int{id, 0}, []int{id}, 0)
		wantChanged(t, "9.2", a, b, []int{0}, []int{id, id}, 0)
		wantChanged(t, "9.2", a, b, []int{id}, []int{0}, -1)
		wantChanged(t, "9.2", no, b, []int{id, 1}, nil, 1)
		wantChanged(t, "9.2", b, no, []int{id, 1}, []int{id}, 1)
	}
}

// TestOneMemoryForBoth: it is as it was.
func TestOneMemoryForBoth(t *testing.T) {
	m := mem("u8:1,2 i32:5 7:0 0:0,0")
	wantChanged(t, "9.2", m, m, []int{3, 2, 1, 0}, nil, -1)
}

// TestTypesThatThereAreNot: a block keeps the number of its type, and by that it is another one.
func TestTypesThatThereAreNot(t *testing.T) {
	for _, c := range []struct {
		before, now string
		want        int
	}{{"7:0", "7:0", -1}, {"7:0", "8:0", 0}, {"0:0", "-1:0", 0}, {"0:0", "u8:0", 0}, {"u8:0", "258:0", 0}, {"-1:0,0", "-1:0", 0}} {
		wantChanged(t, "9.2", mem(c.before), mem(c.now), []int{0}, nil, c.want)
		wantChanged(t, "9.2", mem(c.now), mem(c.before), []int{0}, nil, c.want)
	}
}

// TestChangedGoesByWhatIs: nothing is kept from call to call.
func TestChangedGoesByWhatIs(t *testing.T) {
	a := mem("u8:1,2 i32:5")
	b, ids := a.Copy(), []int{1, 0}
	wantChanged(t, "9.2", a, b, ids, nil, -1)
	b.Set(0, 1, 3)
	wantChanged(t, "9.2", a, b, ids, nil, 0)
	b.Set(1, 0, 6)
	wantChanged(t, "9.2", a, b, ids, nil, 1)
	a.Set(1, 0, 6)
	wantChanged(t, "9.2", a, b, ids, nil, 0)
	b.Cut(1)
	wantChanged(t, "9.2", a, b, ids, nil, 1)
	a.Cut(1)
	b.Set(0, 1, 2)
	wantChanged(t, "9.2", a, b, ids, nil, -1)
}

// TestLongLists: many ids, and as many that may be changed.
func TestLongLists(t *testing.T) {
	const n = 1 << 20
	a, b := mem("u8:1 u8:2"), mem("u8:1 u8:3")
	var ids, may []int
	for i := range n {
		ids = append(ids, n-i)
		may = append(may, n+i)
	}
	wantOne := func(may []int, want int) {
		t.Helper()
		if got := Changed(a, b, ids, may); got != want {
			t.Errorf("9.2: of long lists: %d, want %d", got, want)
		}
	}
	wantOne(may, 1)
	wantOne(append(may, 1), -1)
}

// A change is done to a memory.
type change func(d *dice, m *memory.Mem)

// changes are what a run may do between two looks.
func changes() []change {
	set := func(d *dice, m *memory.Mem) {
		m.Set(d.roll(m.Len()+1), d.roll(4), pick(d, 0, 1, 2, 255, 256, -1, 1<<32))
	}
	return []change{
		set, set, set,
		func(d *dice, m *memory.Mem) { m.Add(d.roll(8), d.roll(4)) },
		func(d *dice, m *memory.Mem) { m.Cut(m.Len() - d.roll(3)) },
		func(d *dice, m *memory.Mem) {},
	}
}

func someMemory(d *dice) *memory.Mem {
	m := memory.New()
	for range d.roll(8) {
		id := m.Add(1+d.roll(6), d.roll(4))
		for at := range 3 {
			m.Set(id, at, d.roll(3))
		}
	}
	return m
}

func someIds(d *dice, n int) []int {
	var l []int
	for range d.roll(9) {
		l = append(l, d.roll(n+3)-1)
	}
	return l
}

// wanted is Changed once more, from the blocks as lists.
func wanted(before, now []api.Block, ids, may []int) int {
	at := func(l []api.Block, id int) (api.Block, bool) {
		if id < 0 || id >= len(l) {
			return api.Block{}, false
		}
		return l[id], true
	}
	for _, id := range ids {
		a, had := at(before, id)
		b, has := at(now, id)
		if !slices.Contains(may, id) && (had != has || had && !sameBlock(a, b)) {
			return id
		}
	}
	return -1
}

func TestChangedAgainstASecondLook(t *testing.T) {
	d := dice(5)
	for range 20000 {
		before := someMemory(&d)
		now := before.Copy()
		for range d.roll(4) {
			pick(&d, changes()...)(&d, now)
		}
		if d.roll(20) == 0 {
			now = nil
		}
		n := max(before.Len(), now.Len())
		ids, may := someIds(&d, n), someIds(&d, n)
		had, has, ids2, may2 := blocks(before), blocks(now), slices.Clone(ids[:cap(ids)]), slices.Clone(may[:cap(may)])
		wantChanged(t, "9.2", before, now, ids, may, wanted(had, has, ids, may))
		wantChanged(t, "9.2", now, before, ids, may, wanted(had, has, ids, may))
		if !reflect.DeepEqual(had, blocks(before)) || !reflect.DeepEqual(has, blocks(now)) || !slices.Equal(ids2, ids[:cap(ids)]) || !slices.Equal(may2, may[:cap(may)]) {
			t.Fatalf("R3: what is handed in was changed: %v, %v, %v, %v", blocks(before), blocks(now), ids, may)
		}
	}
}
