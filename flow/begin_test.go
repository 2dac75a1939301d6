package flow

import (
	"math"
	"reflect"
	"testing"

	"calliper/api"
)

const oneOfEach = "global a : i8 = -5 ; global b : u8 = 200 ; global h : i16 [ 3 ] ; global c : u32 = 4000000000u ; global k : i32 [ 1 ] ; fn f ( x : i8 , y : u32 ) : i32 { return x ; } fn array ( x : i8 , z : u8 [ 2 ] ) { } fn empty ( ) { } "

// started are globals that fit oneOfEach; each call makes new ones.
func started() []api.Block {
	return []api.Block{{T: api.I8, Vals: []int{-128}}, {T: api.U8, Vals: []int{255}}, {T: api.I16, Vals: []int{-32768, 32767, 0}}, {T: api.U32, Vals: []int{1<<32 - 1}}, {T: api.I32, Vals: []int{-1 << 31}}}
}

func wantNone(t *testing.T, why string, x api.Trace) {
	t.Helper()
	if !reflect.DeepEqual(x, api.Trace{End: api.EndNone}) {
		t.Errorf("13.1: %s: %+v, want EndNone", why, x)
	}
}

func TestNoSuchRun(t *testing.T) {
	p := mustProgram(t, oneOfEach)
	two := []int{1, 2}
	for _, name := range []string{"", "F", "ff", "f ", "x", "a", "h"} {
		wantNone(t, "no such function", Run(p, name, two, nil, nil, 9))
	}
	wantNone(t, "no function at all", Run(api.Program{}, "f", nil, nil, nil, 9))
	wantNone(t, "no function of no name", Run(api.Program{}, "", nil, nil, nil, 9))
	wantNone(t, "an array parameter", Run(p, "array", two, nil, nil, 9))
	wantNone(t, "an array parameter, without an arg", Run(p, "array", []int{1}, nil, nil, 9))
	for _, args := range [][]int{nil, {}, {1}, {1, 2, 3}, make([]int, 300)} {
		wantNone(t, "another number of args", Run(p, "f", args, nil, nil, 9))
	}
	wantNone(t, "an arg too many", Run(p, "empty", []int{0}, nil, nil, 9))
	for _, fuel := range []int{-1, api.MaxFuel + 1, math.MinInt, math.MaxInt, -api.MaxFuel, 1 << 32} {
		wantNone(t, "fuel", Run(p, "f", two, nil, nil, fuel))
		wantNone(t, "fuel", Run(p, "f", two, started(), nil, fuel))
	}
}

func TestGlobalsThatDoNotFit(t *testing.T) {
	p := mustProgram(t, oneOfEach)
	for i, turn := range []func(l []api.Block) []api.Block{
		func(l []api.Block) []api.Block { return l[:4] },
		func(l []api.Block) []api.Block { return l[1:] },
		func(l []api.Block) []api.Block { return l[:1] },
		func(l []api.Block) []api.Block { return append(l, api.Block{}) },
		func(l []api.Block) []api.Block { return append(l, l[4]) },
		func(l []api.Block) []api.Block { return make([]api.Block, 5) },
		func(l []api.Block) []api.Block { return make([]api.Block, 1) },
		func(l []api.Block) []api.Block { l[0], l[1] = l[1], l[0]; return l },
		// Another type, though it has the value.
		func(l []api.Block) []api.Block { l[0].T = api.I16; return l },
		func(l []api.Block) []api.Block { l[1].T = api.I32; return l },
		func(l []api.Block) []api.Block { l[2].T = api.I32; return l },
		func(l []api.Block) []api.Block { l[4].T = 0; return l },
		func(l []api.Block) []api.Block { l[4].T = 7; return l },
		// Another number of values.
		func(l []api.Block) []api.Block { l[0].Vals = nil; return l },
		func(l []api.Block) []api.Block { l[0].Vals = []int{1, 1}; return l },
		func(l []api.Block) []api.Block { l[2].Vals = l[2].Vals[:2]; return l },
		func(l []api.Block) []api.Block { l[2].Vals = append(l[2].Vals, 0); return l },
		func(l []api.Block) []api.Block { l[2].Vals = nil; return l },
		func(l []api.Block) []api.Block { l[4].Vals = []int{}; return l },
		func(l []api.Block) []api.Block { l[4].Vals = []int{0, 0}; return l },
		// A value that its type has not, at each place.
		func(l []api.Block) []api.Block { l[0].Vals[0] = -129; return l },
		func(l []api.Block) []api.Block { l[0].Vals[0] = 128; return l },
		func(l []api.Block) []api.Block { l[1].Vals[0] = 256; return l },
		func(l []api.Block) []api.Block { l[1].Vals[0] = -1; return l },
		func(l []api.Block) []api.Block { l[2].Vals[0] = -32769; return l },
		func(l []api.Block) []api.Block { l[2].Vals[1] = 32768; return l },
		func(l []api.Block) []api.Block { l[2].Vals[2] = 1 << 40; return l },
		func(l []api.Block) []api.Block { l[3].Vals[0] = 1 << 32; return l },
		func(l []api.Block) []api.Block { l[3].Vals[0] = math.MinInt; return l },
		func(l []api.Block) []api.Block { l[4].Vals[0] = 1 << 31; return l },
		func(l []api.Block) []api.Block { l[4].Vals[0] = -1<<31 - 1; return l },
	} {
		for _, fuel := range []int{0, 9, api.MaxFuel} {
			if x := Run(p, "f", []int{1, 2}, turn(started()), nil, fuel); !reflect.DeepEqual(x, api.Trace{End: api.EndNone}) {
				t.Errorf("13.1: globals %d: %+v, want EndNone", i, x)
			}
		}
	}
	wantNone(t, "globals of a program without any", Run(mustProgram(t, "fn f ( ) { }"), "f", nil, []api.Block{{T: api.I8, Vals: []int{0}}}, nil, 9))
	wantNone(t, "globals of a program without any", Run(mustProgram(t, "fn f ( ) { }"), "f", nil, make([]api.Block, 1), nil, 9))
}

func TestGlobalsAndArgs(t *testing.T) {
	const asTheyAre = " i8:-5 u8:200 i16:0,0,0 u32:4000000000 i32:0"
	p := mustProgram(t, oneOfEach)
	for _, c := range []struct {
		entry   string
		args    []int
		globals []api.Block
		fuel    int
		want    string
	}{
		{"empty", nil, nil, 0, "call empty; return empty 0; done 0" + asTheyAre},
		{"empty", []int{}, []api.Block{}, 0, "call empty; return empty 0; done 0" + asTheyAre},
		{"empty", nil, nil, api.MaxFuel, "call empty; return empty 0; done 0" + asTheyAre},
		{"empty", nil, started()[:0], 1, "call empty; return empty 0; done 0" + asTheyAre},
		{"empty", nil, started(), 0, "call empty; return empty 0; done 0" + blocksText(started())},
		{"f", []int{1, 2}, started(), api.MaxFuel, "call f 1,2; return f 1; done 1" + blocksText(started())},
		{"f", []int{1, 2}, started(), 0, "call f 1,2; fuel"},
		// Args are wrapped, each into its own type.
		{"f", []int{127, 128}, nil, 1, "call f 127,128; return f 127; done 127" + asTheyAre},
		{"f", []int{128, -1}, nil, 1, "call f -128,4294967295; return f -128; done -128" + asTheyAre},
		{"f", []int{-129, 1 << 32}, nil, 1, "call f 127,0; return f 127; done 127" + asTheyAre},
		{"f", []int{-1, 1<<32 - 1}, nil, 1, "call f -1,4294967295; return f -1; done -1" + asTheyAre},
		{"f", []int{math.MaxInt, math.MaxInt}, nil, 1, "call f -1,4294967295; return f -1; done -1" + asTheyAre},
		{"f", []int{math.MinInt, math.MinInt + 7}, nil, 1, "call f 0,7; return f 0; done 0" + asTheyAre},
	} {
		if got := text(Run(p, c.entry, c.args, c.globals, nil, c.fuel), nil); got != c.want {
			t.Errorf("13.1: %s of %v, globals %v: %s, want %s", c.entry, c.args, c.globals, got, c.want)
		}
	}
}

// TestGlobalsBegin: what is read at the begin is what is told, or what the program says.
func TestGlobalsBegin(t *testing.T) {
	p := mustProgram(t, "global s : i16 = -300 ; global o : u8 ; global l : i8 [ 16 ] ; fn f ( ) : i32 { return s + o + l [ 0 ] + l [ 15 ] ; }")
	for _, c := range []struct {
		globals []api.Block
		want    int
	}{
		{nil, -300}, {[]api.Block{}, -300},
		{[]api.Block{{T: api.I16, Vals: []int{1000}}, {T: api.U8, Vals: []int{200}}, {T: api.I8, Vals: []int{1, 50, 50, 50, 50, 50, 50, 50, 50, 50, 50, 50, 50, 50, 50, -3}}}, 1198},
		{[]api.Block{{T: api.I16, Vals: []int{0}}, {T: api.U8, Vals: []int{0}}, {T: api.I8, Vals: make([]int, 16)}}, 0},
	} {
		if x := Run(p, "f", nil, c.globals, nil, 1); x.End != api.EndDone || x.Result != c.want {
			t.Errorf("13.1: globals %v: %+v, want %d", c.globals, x, c.want)
		}
	}
}

// TestEachFunctionMayBegin: by its own name, with its own parameters.
func TestEachFunctionMayBegin(t *testing.T) {
	p := mustProgram(t, "fn a ( ) : i8 { return 1 ; } fn b ( x : u8 ) : i8 { return x ; } fn c ( x : u8 , y : i8 ) : i8 { return y ; } fn main ( ) : i8 { return 4 ; }")
	for _, c := range []struct {
		entry string
		args  []int
		want  string
	}{
		{"a", nil, "call a; return a 1; done 1"}, {"b", []int{2}, "call b 2; return b 2; done 2"}, {"c", []int{2, 3}, "call c 2,3; return c 3; done 3"}, {"main", nil, "call main; return main 4; done 4"},
	} {
		if got := text(Run(p, c.entry, c.args, nil, nil, 1), nil); got != c.want {
			t.Errorf("13.1: %s: %s, want %s", c.entry, got, c.want)
		}
	}
}
