package flow

import (
	"testing"

	"calliper/api"
)

// A frame is broken only where there is a fault of FWrite: so these rows have some.
func TestFrames(t *testing.T) {
	const things = "global s : i8 = 1 ; global u : u8 = 2 ; global l : i16 [ 2 ] ; global k : u16 [ 3 ] ; "
	sources := func(heads, body string) string {
		return things + "fn @f f ( ) " + heads + "{ " + body + " }"
	}
	done := func(blocks string) string { return "call f; return f 0; done 0" + blocks }
	const broken = "call f; frame@f 0; fail"
	wantRows(t, "13.1", []row{
		// A scalar of the globals, each place of an array of theirs; alone, several at once.
		{sources("", "s = 5 ;"), nil, nil, broken}, {sources("", "u = 5 ;"), nil, nil, broken}, {sources("", "l [ 0 ] = 5 ;"), nil, nil, broken}, {sources("", "l [ 1 ] = 5 ;"), nil, nil, broken}, {sources("", "k [ 2 ] = 5 ;"), nil, nil, broken},
		{sources("", "s = 5 ; u = 5 ; l [ 0 ] = 5 ; k [ 0 ] = 5 ;"), nil, nil, broken},
		{sources("assigns nothing ; ", "s = 5 ;"), nil, nil, broken}, {sources("assigns nothing ; ", "input s ;"), nil, nil, "call f; input 0; frame@f 0; fail"},
		// Names tell some of them, or all.
		{sources("assigns u , l , k ; ", "s = 5 ;"), nil, nil, broken}, {sources("assigns s , l , k ; ", "u = 5 ;"), nil, nil, broken}, {sources("assigns s , u , k ; ", "l [ 1 ] = 5 ;"), nil, nil, broken}, {sources("assigns s , u , l ; ", "k [ 1 ] = 5 ;"), nil, nil, broken},
		{sources("assigns u , l , k ; ", "s = 5 ; u = 5 ; l [ 0 ] = 5 ; k [ 0 ] = 5 ;"), nil, nil, broken}, {sources("assigns s , u , l ; ", "s = 5 ; u = 5 ; l [ 0 ] = 5 ; k [ 0 ] = 5 ;"), nil, nil, broken},
		{sources("assigns s ; ", "s = 5 ;"), nil, nil, done(" i8:5 u8:2 i16:0,0 u16:0,0,0")}, {sources("assigns u ; ", "u = 5 ;"), nil, nil, done(" i8:1 u8:5 i16:0,0 u16:0,0,0")}, {sources("assigns l ; ", "l [ 1 ] = 5 ;"), nil, nil, done(" i8:1 u8:2 i16:0,5 u16:0,0,0")}, {sources("assigns k ; ", "k [ 2 ] = 5 ;"), nil, nil, done(" i8:1 u8:2 i16:0,0 u16:0,0,5")},
		{sources("assigns k ; assigns s , l ; assigns u ; ", "s = 5 ; u = 5 ; l [ 0 ] = 5 ; k [ 0 ] = 5 ;"), nil, nil, done(" i8:5 u8:5 i16:5,0 u16:5,0,0")},
		{sources("assigns s , u , l , k ; ", ""), nil, nil, done(" i8:1 u8:2 i16:0,0 u16:0,0,0")},
		// What is at the return as it was at the call was not changed, whatever was between.
		{sources("", "s = 5 ; s = 1 ; l [ 1 ] = 7 ; l [ 1 ] = 65536 ;"), nil, nil, done(" i8:1 u8:2 i16:0,0 u16:0,0,0")}, {sources("", "s = s ; u = 258 ; k [ 0 ] = 0 ;"), nil, nil, done(" i8:1 u8:2 i16:0,0 u16:0,0,0")},
		// It is looked at behind the ensures, and only where these hold; the place is the function's.
		{sources("@a ensures s == 5 ; ", "s = 5 ;"), nil, nil, "call f; ensures@a 1; frame@f 0; fail"}, {sources("@a ensures s == 1 ; ", "s = 5 ;"), nil, nil, "call f; ensures@a 0; fail"},
		// And where the body is left by a return.
		{sources("", "s = 5 ; return ;"), nil, nil, broken},
		// What the run ends at ahead of the return breaks no frame.
		{sources("", "s = 5 ; @a assert s == 1 ;"), nil, nil, "call f; assert@a 0; fail"},
		// Scalar parameters are nobody else's.
		{"global s : i8 ; fn @f f ( x : i8 ) { x = 5 ; }", []int{1}, nil, "call f 1; return f 0; done 0 i8:0"},
	})
}

func TestFramesOfCalls(t *testing.T) {
	wantRows(t, "13.1", []row{
		// An array parameter, alone and beside others.
		{"fn @g g ( a : u8 [ 2 ] ) { a [ 1 ] = 5 ; } fn f ( ) { let p : u8 [ 2 ] ; call g ( p ) ; }", nil, nil, "call f; call g; frame@g 0; fail"},
		{"fn @g g ( a : u8 [ 2 ] , b : u8 [ 2 ] ) assigns a ; { b [ 1 ] = 5 ; } fn f ( ) { let p : u8 [ 2 ] ; let q : u8 [ 2 ] ; call g ( p , q ) ; }", nil, nil, "call f; call g; frame@g 0; fail"},
		{"fn @g g ( a : u8 [ 2 ] , b : u8 [ 2 ] ) assigns b ; { b [ 1 ] = 5 ; } fn f ( ) : u8 { let p : u8 [ 2 ] ; let q : u8 [ 2 ] ; call g ( p , q ) ; return q [ 1 ] ; }", nil, nil, "call f; call g; return g 0; return f 5; done 5"},
		{"global s : i8 ; global l : i8 [ 1 ] ; fn @g g ( a : u8 [ 2 ] ) assigns s , l ; { a [ 1 ] = 5 ; s = 1 ; l [ 0 ] = 1 ; } fn f ( ) assigns s , l ; { let p : u8 [ 2 ] ; call g ( p ) ; }", nil, nil, "call f; call g; frame@g 0; fail"},
		{"global s : i8 ; global l : i8 [ 1 ] ; fn @g g ( a : u8 [ 2 ] ) assigns a , l ; { a [ 1 ] = 5 ; s = 1 ; l [ 0 ] = 1 ; } fn f ( ) assigns s , l ; { let p : u8 [ 2 ] ; call g ( p ) ; }", nil, nil, "call f; call g; frame@g 0; fail"},
		{"global s : i8 ; global l : i8 [ 1 ] ; fn @g g ( a : u8 [ 2 ] , x : i8 ) assigns a , s ; { a [ 1 ] = 5 ; s = 1 ; x = 3 ; l [ 0 ] = 1 ; } fn f ( ) assigns s , l ; { let p : u8 [ 2 ] ; call g ( p , 2 ) ; }", nil, nil, "call f; call g 2; frame@g 0; fail"},
		{"global s : i8 ; global l : i8 [ 1 ] ; fn @g g ( a : u8 [ 2 ] , x : i8 ) assigns a , s , l ; { a [ 1 ] = 5 ; s = 1 ; x = 3 ; l [ 0 ] = 1 ; } fn f ( ) assigns s , l ; { let p : u8 [ 2 ] ; call g ( p , 2 ) ; }", nil, nil, "call f; call g 2; return g 0; return f 0; done 0 i8:1 i8:1"},
		// Each frame by what its own function says: the caller's is broken by what the callee may do.
		{"global s : i8 ; fn @g g ( ) assigns s ; { s = 5 ; } fn @f f ( ) { call g ( ) ; }", nil, nil, "call f; call g; return g 0; frame@f 0; fail"},
		{"global s : i8 ; fn @g g ( ) { s = 5 ; } fn @f f ( ) assigns s ; { call g ( ) ; }", nil, nil, "call f; call g; frame@g 0; fail"},
		{"fn @g g ( a : i8 [ 1 ] ) assigns a ; { a [ 0 ] = 5 ; } fn @h h ( b : i8 [ 1 ] ) { call g ( b ) ; } fn f ( ) { let p : i8 [ 1 ] ; call h ( p ) ; }", nil, nil, "call f; call h; call g; return g 0; frame@h 0; fail"},
		// A result that goes to a global is the caller's own change.
		{"global s : i8 ; fn @g g ( ) : i8 { return 5 ; } fn @f f ( ) { call s = g ( ) ; }", nil, nil, "call f; call g; return g 5; frame@f 0; fail"},
		{"global s : i8 ; fn @g g ( ) : i8 { return 5 ; } fn @f f ( ) assigns s ; { call s = g ( ) ; }", nil, nil, "call f; call g; return g 5; return f 0; done 0 i8:5"},
		// What was is what was at the call, not what was at the run's begin.
		{"global s : i8 ; fn @g g ( x : i8 ) { s = x ; } fn f ( ) assigns s ; { s = 5 ; call g ( 5 ) ; s = 6 ; call g ( 5 ) ; }", nil, nil, "call f; call g 5; return g 0; call g 5; frame@g 0; fail"},
		// An array of the caller that is not handed in is no concern of the frame; nor is a `let` with a name of Names.
		{"fn @g g ( a : i8 [ 1 ] ) assigns a ; { let b : i8 [ 1 ] ; a [ 0 ] = 1 ; b [ 0 ] = 2 ; } fn f ( ) : i8 { let b : i8 [ 1 ] ; let c : i8 [ 1 ] ; c [ 0 ] = 3 ; call g ( b ) ; return b [ 0 ] * 10 + c [ 0 ] ; }", nil, nil, "call f; call g; return g 0; return f 13; done 13"},
	})
}

// TestBlocksOfACallAreGone: what a call makes is nobody's behind it, and new noughts at the next.
func TestBlocksOfACallAreGone(t *testing.T) {
	wantRows(t, "13.1", []row{
		{"fn g ( ) : i32 { let a : i32 [ 2 ] ; let x : i32 = 3 ; a [ 1 ] = a [ 1 ] + x ; return a [ 1 ] ; } fn f ( ) : i32 { let p : i32 = 0 ; let q : i32 = 0 ; call p = g ( ) ; let a : i32 [ 2 ] ; let x : i32 = 7 ; call q = g ( ) ; return p * 100 + q * 10 + a [ 1 ] + x ; }", nil, nil, "call f; call g; return g 3; call g; return g 3; return f 337; done 337"},
		// A let behind a call, whose own block stands where the callee's stood.
		{"fn g ( x : i32 , y : i32 ) : i32 { let z : i32 = x + y ; return z ; } fn f ( x : i32 ) : i32 { let r : i32 = 0 ; call r = g ( x , 2 ) ; let a : i8 [ 3 ] ; call r = g ( r , r ) ; a [ 2 ] = 7 ; return r * 100 + a [ 0 ] + a [ 1 ] + a [ 2 ] + x ; }", []int{1}, nil, "call f 1; call g 1,2; return g 3; call g 3,3; return g 6; return f 608; done 608"},
		// Out of a call by a return from within blocks.
		{"fn g ( x : i32 ) : i32 { while 1 < 2 { let y : i32 = x ; if x > 0 { let a : i32 [ 1 ] ; a [ 0 ] = y + 1 ; return a [ 0 ] ; } x = 5 ; } } fn f ( ) : i32 { let r : i32 = 0 ; call r = g ( 0 ) ; let b : i32 = 4 ; call r = g ( r ) ; return r * 10 + b ; }", nil, nil, "call f; call g 0; return g 6; call g 6; return g 7; return f 74; done 74"},
		// Recursion: each call has its own.
		{"fn f ( n : i32 ) : i32 { let r : i32 = 0 ; let a : i32 [ 1 ] ; a [ 0 ] = n ; if n > 0 { call r = f ( n - 1 ) ; } return r * 10 + a [ 0 ] ; }", []int{3}, nil, "call f 3; call f 2; call f 1; call f 0; return f 0; return f 1; return f 12; return f 123; done 123"},
		{"fn e ( n : i32 ) : i32 { let r : i32 = 1 ; if n > 0 { call r = f ( n - 1 ) ; } return r ; } fn f ( n : i32 ) : i32 { let r : i32 = 0 ; if n > 0 { call r = e ( n - 1 ) ; } return r ; }", []int{3}, nil, "call f 3; call e 2; call f 1; call e 0; return e 1; return f 1; return e 1; return f 1; done 1"},
	})
}

// TestBlocksDoNotPileUp: those of a call are let go of, and a `let` of a loop takes no more of them each time.
func TestBlocksDoNotPileUp(t *testing.T) {
	p := mustProgram(t, "global s : i8 ; global l : i8 [ 2 ] ; fn g ( x : i8 , y : i8 ) { let a : i8 [ 3 ] ; if x > 0 { let z : i8 = 1 ; return ; } } fn f ( ) { while 1 < 2 { let b : u8 [ 2 ] ; let c : i8 = 1 ; call g ( c , 2 ) ; if 1 < 2 { let d : i8 = 2 ; } } }")
	m := newMachine(p, nil, api.MaxFuel)
	m.begin(nil)
	for x := range 2 {
		m.trace = api.Trace{}
		m.enter(&p.Funcs[0], []int{x, 2}, nil)
		if m.run(); m.trace.End != api.EndDone || m.mem.Len() != 2 || m.open != 0 {
			t.Errorf("13.1: end %d, %d blocks, %d calls behind a call", m.trace.End, m.mem.Len(), m.open)
		}
	}
	m.trace = api.Trace{}
	m.enter(&p.Funcs[1], nil, nil)
	if m.run(); m.trace.End != api.EndFuel || m.mem.Len() > 2+3+4 || len(m.frame.names) > 2+3+4 {
		t.Errorf("13.1: end %d, %d blocks, %d names in a loop that makes some", m.trace.End, m.mem.Len(), len(m.frame.names))
	}
}
