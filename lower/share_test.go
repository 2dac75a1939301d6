package lower

import (
	"cmp"
	"reflect"
	"slices"
	"testing"

	"calliper/api"
)

// A room is memory that a list has, to the end of its room.
type room struct {
	from, to uintptr
	list     reflect.Value
}

// rooms are those of all lists within a thing.
func rooms(v reflect.Value, found []room) []room {
	switch v.Kind() {
	case reflect.Struct:
		for i := range v.NumField() {
			found = rooms(v.Field(i), found)
		}
	case reflect.Slice:
		if v.Cap() > 0 {
			found = append(found, room{v.Pointer(), v.Pointer() + uintptr(v.Cap())*v.Type().Elem().Size(), v})
		}
		for i := range v.Len() {
			found = rooms(v.Index(i), found)
		}
	}
	return found
}

func wantApart(t *testing.T, l []room) {
	t.Helper()
	slices.SortFunc(l, func(a, b room) int { return cmp.Compare(a.from, b.from) })
	for i := range len(l) - 1 {
		if l[i+1].from < l[i].to {
			t.Fatalf("R3: a list %v and a list %v share memory", l[i].list.Type(), l[i+1].list.Type())
		}
	}
}

// TestListsShareNoMemory: neither with what is handed in, nor with one another, nor with what was told before.
func TestListsShareNoMemory(t *testing.T) {
	g := &grower{d: 8}
	for range 100 {
		f := g.function()
		l, _ := Lower(f)
		again, _ := Lower(f)
		wantApart(t, rooms(reflect.ValueOf(again), rooms(reflect.ValueOf(l), rooms(reflect.ValueOf(f), nil))))
	}
	// Of a relation that is put twice.
	f := api.Func{Body: []api.Stmt{{Kind: api.SIf, C: []api.Cond{rel(5, 6), {Kind: api.CAnd, A: 0, B: 0}}}}}
	l, _ := Lower(f)
	wantApart(t, rooms(reflect.ValueOf(l), rooms(reflect.ValueOf(f), nil)))
	// Of a thing that stands at several places of what is handed in.
	s := crowded(api.SAssert, 3)
	l, _ = Lower(api.Func{Body: []api.Stmt{s, s, {Kind: api.SWhile, C: s.C, Inv: []api.Clause{{C: s.C}, {C: s.C}}, Body: []api.Stmt{s}}}})
	wantApart(t, rooms(reflect.ValueOf(l), rooms(reflect.ValueOf(s), nil)))
}

// spoil writes into a thing, and into all lists in it, to the end of their room.
func spoil(v reflect.Value) {
	switch v.Kind() {
	case reflect.Struct:
		for i := range v.NumField() {
			spoil(v.Field(i))
		}
	case reflect.Slice:
		all := v.Slice(0, v.Cap())
		for i := range all.Len() {
			spoil(all.Index(i))
		}
	case reflect.String:
		v.SetString("spoilt")
	case reflect.Bool:
		v.SetBool(!v.Bool())
	default:
		v.SetInt(-99)
	}
}

// TestWhatIsHandedInStaysAsItIs: while it is looked at, and when what was told is spoilt.
func TestWhatIsHandedInStaysAsItIs(t *testing.T) {
	g, h := &grower{d: 9}, &grower{d: 9}
	for range 100 {
		f, same := g.function(), h.function()
		l, entry := Lower(f)
		if !reflect.DeepEqual(f, same) {
			t.Fatal("R3: what was handed in is another one now")
		}
		want := text(l, entry, nil)
		spoil(reflect.ValueOf(&l).Elem())
		_ = append(l, api.Instr{Kind: 77})
		if !reflect.DeepEqual(f, same) {
			t.Fatal("R3: what was told shares memory with what was handed in")
		}
		if l, entry = Lower(f); text(l, entry, nil) != want {
			t.Fatalf("R5: %s, before %s", text(l, entry, nil), want)
		}
		// Nor does what is told hang on what was handed in.
		spoil(reflect.ValueOf(&f).Elem())
		if text(l, entry, nil) != want {
			t.Fatalf("R3: what was handed in is kept: %s, before %s", text(l, entry, nil), want)
		}
	}
}

func TestNextKeepsNothing(t *testing.T) {
	l := []api.Instr{{Kind: api.IIf, Next: 1, Else: 0}, {Kind: api.IIf, Next: 0, Else: 0}, {Kind: api.IIf, Next: 7, Else: 1}, {Kind: api.IDo, Next: 2}}
	same := slices.Clone(l)
	var told [][]int
	for range 2 {
		for at := range l {
			told = append(told, Next(l, at))
		}
	}
	if !reflect.DeepEqual(l, same) {
		t.Errorf("R3: what was handed in is another one now: %+v", l)
	}
	for _, to := range told {
		for i := range to[:cap(to)] {
			to[:cap(to)][i] = -99
		}
		_ = append(to, -98)
	}
	for at, want := range [][]int{{0, 1}, {0}, {1}, {2}} {
		if got := Next(l, at); !slices.Equal(got, want) || !reflect.DeepEqual(l, same) {
			t.Errorf("R3: of %d: %v, want %v", at, got, want)
		}
	}
	for i, a := range told {
		for _, b := range told[:i] {
			wantApart(t, rooms(reflect.ValueOf(b), rooms(reflect.ValueOf(a), nil)))
		}
	}
}
