package flow

import (
	"reflect"
	"slices"
	"testing"

	"calliper/api"
)

// shared tells of everything: each kind of event, and globals of both kinds.
const shared = "global s : i8 = 3 ; global l : u8 [ 3 ] ; fn g ( x : i8 , a : u8 [ 2 ] , y : i8 ) : i8 requires x > 0 ; ensures result > y ; assigns a , l ; { a [ 1 ] = x ; l [ 2 ] = l [ 2 ] + a [ 1 ] ; return x + 1 ; } fn f ( x : i8 , y : u8 ) : i8 assigns s , l ; { let b : u8 [ 2 ] ; let n : i8 = 0 ; while n < 3 invariant n >= 0 ; { n = n + 1 ; call s = g ( n , b , 1 - n ) ; } input s ; input x ; assert 10 / y >= 0 ; if 10 / ( y - 2 ) == 0 { } return b [ 1 ] + s ; }"

func given() (args []int, globals []api.Block, inputs []int) {
	// Each has spare room.
	return append(make([]int, 0, 9), 300, 1), []api.Block{{T: api.I8, Vals: append(make([]int, 0, 9), 4)}, {T: api.U8, Vals: []int{1, 2, 3}}}, append(make([]int, 0, 9), 200, 7, 8)
}

// parts are all lists of a run's answer, to the end of their room.
func parts(x api.Trace) [][]int {
	l := [][]int{}
	for _, v := range x.Events[:cap(x.Events)] {
		l = append(l, v.Vals[:cap(v.Vals)])
	}
	for _, b := range x.Globals[:cap(x.Globals)] {
		l = append(l, b.Vals[:cap(b.Vals)])
	}
	return l
}

func spoil(l []int) {
	for i := range l {
		l[i] = -99
	}
}

func TestWhatIsHandedInStaysAsItIs(t *testing.T) {
	p, again := mustProgram(t, shared), mustProgram(t, shared)
	for _, fuel := range []int{-1, 0, 5, 20, api.MaxFuel} {
		for _, y := range []int{0, 1, 2} {
			args, globals, inputs := given()
			args2, globals2, inputs2 := given()
			args[1], args2[1] = y, y
			Run(p, "f", args, globals, inputs, fuel)
			if !reflect.DeepEqual(p, again) || !reflect.DeepEqual(globals, globals2) || !slices.Equal(args[:9], args2[:9]) || !slices.Equal(inputs[:9], inputs2[:9]) || !slices.Equal(globals[0].Vals[:9], globals2[0].Vals[:9]) {
				t.Fatalf("R3: what is handed in was changed: %v, %v, %v", args, globals, inputs)
			}
		}
	}
}

// TestNothingIsKept: what is told does not hang on what is handed in any more, nor on what was told before.
func TestNothingIsKept(t *testing.T) {
	for _, y := range []int{0, 1, 2} {
		p := mustProgram(t, shared)
		args, globals, inputs := given()
		args[1] = y
		want := Run(mustProgram(t, shared), "f", slices.Clone(args), globals, inputs, api.MaxFuel)
		x := Run(p, "f", args, globals, inputs, api.MaxFuel)
		spoil(args[:9])
		spoil(globals[0].Vals[:9])
		spoil(globals[1].Vals)
		spoil(inputs[:9])
		for i := range p.Funcs {
			clear(p.Funcs[i].Body)
			clear(p.Funcs[i].Params)
		}
		clear(p.Globals)
		clear(p.Funcs)
		if !reflect.DeepEqual(x, want) {
			t.Errorf("R3: %+v, want %+v", x, want)
		}
	}
}

// TestNoTwoListsShareMemory: to spoil one of them, and all its room, changes no other.
func TestNoTwoListsShareMemory(t *testing.T) {
	p := mustProgram(t, shared)
	for _, y := range []int{0, 1, 2} {
		args, globals, inputs := given()
		args[1] = y
		want := Run(p, "f", args, globals, inputs, api.MaxFuel)
		x := Run(p, "f", args, globals, inputs, api.MaxFuel)
		for i, part := range parts(x) {
			was := parts(want)
			spoil(part)
			for j, other := range parts(x) {
				if j > i && !slices.Equal(other, was[j]) {
					t.Errorf("R3: list %d and list %d share memory", i, j)
				}
			}
		}
		_ = append(x.Events, api.Event{Kind: 77})
		_ = append(x.Globals, api.Block{T: 77})
		args2, globals2, inputs2 := given()
		args2[1] = y
		if !reflect.DeepEqual(args, args2) || !reflect.DeepEqual(globals, globals2) || !reflect.DeepEqual(inputs, inputs2) || !reflect.DeepEqual(Run(p, "f", args, globals, inputs, api.MaxFuel), want) {
			t.Errorf("R3: what was told shares memory with what was handed in")
		}
	}
}

// TestEnds: result and globals at EndDone alone, and at each other end what was told till then.
func TestEnds(t *testing.T) {
	src, marks := unmark("global s : i8 = 3 ; global l : u8 [ 2 ] ; fn @f f ( x : i8 ) : i32 @a requires x < 100 ; @b ensures result < 50 ; assigns l ; { s = 7 ; l [ 0 ] = x ; l [ 1 ] = 9 ; if x == 1 { return 1 @c / ( x - 1 ) ; } @d assert x != 2 ; if x == 4 { call f ( x ) ; } if x == 5 { while x == 5 { } } if x < 10 { s = 3 ; } return x ; }")
	p := mustProgram(t, src)
	for _, c := range []struct {
		x    int
		want string
	}{
		{0, "call f 0; requires@a 1; assert@d 1; ensures@b 1; return f 0; done 0 i8:3 u8:0,9"},
		{-3, "call f -3; requires@a 1; assert@d 1; ensures@b 1; return f -3; done -3 i8:3 u8:253,9"},
		{1, "call f 1; requires@a 1; div@c; ub"},
		{2, "call f 2; requires@a 1; assert@d 0; fail"},
		{5, "call f 5; requires@a 1; assert@d 1; fuel"},
		{20, "call f 20; requires@a 1; assert@d 1; ensures@b 1; frame@f 0; fail"},
		{50, "call f 50; requires@a 1; assert@d 1; ensures@b 0; fail"},
		{100, "call f 100; requires@a 0; fail"},
	} {
		if got := text(Run(p, "f", []int{c.x}, nil, nil, api.MaxFuel), marks); got != c.want {
			t.Errorf("13.1: of %d: %s, want %s", c.x, got, c.want)
		}
	}
	x := Run(p, "f", []int{4}, nil, nil, api.MaxFuel)
	if x.End != api.EndFuel || x.Result != 0 || len(x.Globals) > 0 || len(x.Events) != 3*api.MaxCalls {
		t.Errorf("13.1: of too many calls: end %d, result %d, globals %v, %d events", x.End, x.Result, x.Globals, len(x.Events))
	}
}

// TestGlobalsInOrder: as they are at the end, each kind where it stands.
func TestGlobalsInOrder(t *testing.T) {
	wantRows(t, "13.1", []row{
		{"global l : u8 [ 2 ] ; global s : i8 = 3 ; global k : i16 [ 1 ] ; global u : u32 ; fn f ( ) assigns u , k , s , l ; { u = 4 ; k [ 0 ] = 3 ; s = 2 ; l [ 1 ] = 1 ; }", nil, nil, "call f; return f 0; done 0 u8:0,1 i8:2 i16:3 u32:4"},
		{"fn f ( ) { } global l : u8 [ 2 ] ; global s : i8 = 3 ;", nil, nil, "call f; return f 0; done 0 u8:0,0 i8:3"},
		{"fn f ( ) { }", nil, nil, "call f; return f 0; done 0"},
	})
}
