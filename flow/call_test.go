package flow

import "testing"

func TestCallsByHand(t *testing.T) {
	wantRows(t, "13.1", []row{
		// EvCall has the scalar arguments alone, wrapped.
		{"fn f ( ) { }", nil, nil, "call f; return f 0; done 0"},
		{"fn f ( x : i8 , y : u8 , z : i32 ) { }", []int{255, 255, 255}, nil, "call f -1,255,255; return f 0; done 0"},
		{"fn g ( a : i8 [ 1 ] , x : i8 , b : u8 [ 2 ] , y : u16 ) { } fn f ( ) { let p : i8 [ 1 ] ; let q : u8 [ 2 ] ; call g ( p , 128 , q , - 1 ) ; }", nil, nil, "call f; call g -128,65535; return g 0; return f 0; done 0"},
		{"fn g ( a : i8 [ 1 ] ) { } fn f ( ) { let p : i8 [ 1 ] ; call g ( p ) ; }", nil, nil, "call f; call g; return g 0; return f 0; done 0"},
		// Requires, in order, up to the first that does not hold.
		{"fn f ( x : i32 ) @a requires x > 0 ; @b requires x > 1 ; @c requires x > 2 ; { input x ; }", []int{3}, []int{9}, "call f 3; requires@a 1; requires@b 1; requires@c 1; input 9; return f 0; done 0"},
		{"fn f ( x : i32 ) @a requires x > 0 ; @b requires x > 1 ; @c requires x > 2 ; { input x ; }", []int{2}, []int{9}, "call f 2; requires@a 1; requires@b 1; requires@c 0; fail"},
		{"fn f ( x : i32 ) @a requires x > 0 ; @b requires x > 1 ; @c requires x > 2 ; { input x ; }", []int{1}, []int{9}, "call f 1; requires@a 1; requires@b 0; fail"},
		{"fn f ( x : i32 ) @a requires x > 0 ; @b requires x > 1 ; @c requires x > 2 ; { input x ; }", []int{0}, []int{9}, "call f 0; requires@a 0; fail"},
		// Undefined behaviour in a clause counts as one that does not hold.
		{"fn f ( x : i32 ) @a requires 1 / x > - 2 ; { }", []int{0}, nil, "call f 0; requires@a 0; fail"},
		{"fn f ( x : i32 ) @a requires 1 / x > - 2 ; { }", []int{5}, nil, "call f 5; requires@a 1; return f 0; done 0"},
		{"fn f ( x : i32 ) @a requires x == 0 or 1 / x < 0 ; { }", []int{0}, nil, "call f 0; requires@a 1; return f 0; done 0"},
		{"fn f ( x : i32 ) @a ensures 1 / x > - 2 ; { }", []int{0}, nil, "call f 0; ensures@a 0; fail"},
		// They see what parameters are wrapped to, globals, and arrays that are handed in.
		{"fn f ( x : i8 ) @a requires x < 0 ; { }", []int{128}, nil, "call f -128; requires@a 1; return f 0; done 0"},
		{"global s : i32 = 7 ; fn g ( a : u8 [ 2 ] ) @a requires a [ 1 ] == 3 and s == 8 ; { } fn f ( ) assigns s ; { let p : u8 [ 2 ] ; p [ 1 ] = 259 ; s = 8 ; call g ( p ) ; s = 9 ; call g ( p ) ; }", nil, nil, "call f; call g; requires@a 1; return g 0; call g; requires@a 0; fail"},
		// Behind a call that fails nothing is told.
		{"fn g ( x : i32 ) @a requires x > 0 ; { } fn f ( x : i32 ) @b ensures x > 9 ; { call g ( x ) ; call g ( 0 ) ; call g ( x ) ; }", []int{1}, nil, "call f 1; call g 1; requires@a 1; return g 0; call g 0; requires@a 0; fail"},
		{"fn g ( ) @a ensures 1 > 1 ; { } fn f ( ) @b ensures 1 > 0 ; { call g ( ) ; }", nil, nil, "call f; call g; ensures@a 0; fail"},
	})
}

func TestResults(t *testing.T) {
	wantRows(t, "13.1", []row{
		{"fn f ( ) : i8 { return 300 ; }", nil, nil, "call f; return f 44; done 44"},
		{"fn f ( ) : i8 { return 128 ; }", nil, nil, "call f; return f -128; done -128"},
		{"fn f ( ) : u8 { return - 1 ; }", nil, nil, "call f; return f 255; done 255"},
		{"fn f ( ) : i16 { return 32768 ; }", nil, nil, "call f; return f -32768; done -32768"},
		{"fn f ( ) : u16 { return 65537 ; }", nil, nil, "call f; return f 1; done 1"},
		{"fn f ( ) : i32 { return 4294967295u ; }", nil, nil, "call f; return f -1; done -1"},
		{"fn f ( ) : u32 { return - 1 ; }", nil, nil, "call f; return f 4294967295; done 4294967295"},
		// Without a return, and without a type.
		{"fn f ( ) : i8 { }", nil, nil, "call f; return f 0; done 0"},
		{"fn f ( x : i8 ) : i8 { if x > 0 { return x ; } }", []int{3}, nil, "call f 3; return f 3; done 3"},
		{"fn f ( x : i8 ) : i8 { if x > 0 { return x ; } }", []int{-3}, nil, "call f -3; return f 0; done 0"},
		{"fn f ( x : i8 ) { return ; input x ; }", []int{3}, []int{4}, "call f 3; return f 0; done 0"},
		{"fn f ( x : i8 ) { input x ; }", []int{3}, []int{4}, "call f 3; input 4; return f 0; done 0"},
		// Each call has one of its own.
		{"fn g ( x : i8 ) : i8 { if x > 0 { return x ; } } fn f ( ) : i32 { let p : i32 = 5 ; let q : i32 = 5 ; let r : i32 = 5 ; call p = g ( 7 ) ; call q = g ( 0 ) ; call r = g ( 2 ) ; return p * 100 + q * 10 + r ; }", nil, nil, "call f; call g 7; return g 7; call g 0; return g 0; call g 2; return g 2; return f 702; done 702"},
		{"fn g ( ) : i8 { return 5 ; } fn f ( ) : i8 { call g ( ) ; }", nil, nil, "call f; call g; return g 5; return f 0; done 0"},
	})
}

func TestEnsures(t *testing.T) {
	wantRows(t, "13.1", []row{
		// In order, up to the first that does not hold; behind the body.
		{"fn f ( x : i32 ) @a ensures x > 0 ; @b ensures x > 1 ; @c ensures x > 2 ; { input x ; }", []int{3}, []int{0}, "call f 3; input 0; ensures@a 1; ensures@b 1; ensures@c 1; return f 0; done 0"},
		{"fn f ( x : i32 ) @a ensures x > 0 ; @b ensures x > 1 ; @c ensures x > 2 ; { input x ; }", []int{1}, []int{9}, "call f 1; input 9; ensures@a 1; ensures@b 0; fail"},
		// A clause that stands ahead of a requires is looked at behind it all the same.
		{"fn f ( x : i32 ) @b ensures x > 0 ; @a requires x > 0 ; { }", []int{1}, nil, "call f 1; requires@a 1; ensures@b 1; return f 0; done 0"},
		// Scalar parameters as they were, wrapped, though the body has set them.
		{"fn f ( x : i8 , y : u8 ) : i32 @a ensures x == - 128 and y == 255 and result == x + y + 2 ; { x = x + 1 ; y = y - 255 ; y = y + 1 ; x = x + y ; return 129 ; }", []int{128, -1}, nil, "call f -128,255; ensures@a 1; return f 129; done 129"},
		{"fn f ( x : i32 ) @a ensures x == 9 ; { x = 9 ; }", []int{8}, nil, "call f 8; ensures@a 0; fail"},
		{"fn f ( x : i32 ) @a ensures x == 8 and old ( x ) == 8 ; { x = 9 ; }", []int{8}, nil, "call f 8; ensures@a 1; return f 0; done 0"},
		{"fn f ( x : i32 , a : i32 ) @a ensures x == 1 ; @b ensures a == 2 ; @c ensures old ( x + a ) == x + a ; { a = x ; x = 7 ; }", []int{1, 2}, nil, "call f 1,2; ensures@a 1; ensures@b 1; ensures@c 1; return f 0; done 0"},
		// The result is wrapped by then, and is of the function's type.
		{"fn f ( ) : i8 @a ensures result == 44 ; { return 300 ; }", nil, nil, "call f; ensures@a 1; return f 44; done 44"},
		{"fn f ( ) : i8 @a ensures result == 300 ; { return 300 ; }", nil, nil, "call f; ensures@a 0; fail"},
		{"fn f ( ) : u32 @a ensures result > - 2 ; { return - 1 ; }", nil, nil, "call f; ensures@a 1; return f 4294967295; done 4294967295"},
		{"fn f ( ) : i32 @a ensures result < 0 ; { return - 1 ; }", nil, nil, "call f; ensures@a 1; return f -1; done -1"},
		{"fn f ( ) : i32 @a ensures result == 0 ; { }", nil, nil, "call f; ensures@a 1; return f 0; done 0"},
		// Globals as they are, and as they were.
		{"global s : i32 = 5 ; global l : u8 [ 2 ] ; fn f ( ) @a ensures s == 6 and old ( s ) == 5 ; @b ensures l [ 1 ] == 3 and old ( l [ 1 ] ) == 0 and l [ 0 ] == old ( l [ 0 ] ) ; assigns s , l ; { s = s + 1 ; l [ 1 ] = 3 ; }", nil, nil, "call f; ensures@a 1; ensures@b 1; return f 0; done 0 i32:6 u8:0,3"},
		// What was, was at this call, not at the run's begin, nor at another call.
		{"global s : i32 = 5 ; fn g ( ) @a ensures s == old ( s ) + 1 ; @b ensures old ( s ) < 7 ; assigns s ; { s = s + 1 ; } fn f ( ) @c ensures s == old ( s ) + 3 ; assigns s ; { call g ( ) ; call g ( ) ; call g ( ) ; }", nil, nil, "call f; call g; ensures@a 1; ensures@b 1; return g 0; call g; ensures@a 1; ensures@b 1; return g 0; call g; ensures@a 1; ensures@b 0; fail"},
		// Arrays that are handed in, likewise: the callee changes the caller's.
		{"fn set ( a : u8 [ 2 ] , v : i32 ) @a ensures a [ 1 ] == u8 ( v ) ; @b ensures a [ 0 ] == old ( a [ 0 ] ) and old ( a [ 1 ] ) == 0 ; assigns a ; { a [ 1 ] = v ; v = 0 ; } fn f ( ) : i32 { let b : u8 [ 2 ] ; b [ 0 ] = 9 ; call set ( b , 300 ) ; return b [ 1 ] + b [ 0 ] ; }", nil, nil, "call f; call set 300; ensures@a 1; ensures@b 1; return set 0; return f 53; done 53"},
		{"fn in ( a : i8 [ 1 ] ) assigns a ; { a [ 0 ] = a [ 0 ] + 1 ; } fn mid ( q : i8 [ 1 ] , p : i8 [ 1 ] ) @a ensures p [ 0 ] == old ( p [ 0 ] ) + 2 ; assigns p ; { call in ( p ) ; call in ( p ) ; } fn f ( ) : i8 { let q : i8 [ 1 ] ; let a : i8 [ 1 ] ; a [ 0 ] = 5 ; call mid ( q , a ) ; call mid ( a , q ) ; return a [ 0 ] * 10 + q [ 0 ] ; }", nil, nil, "call f; call mid; call in; return in 0; call in; return in 0; ensures@a 1; return mid 0; call mid; call in; return in 0; call in; return in 0; ensures@a 1; return mid 0; return f 72; done 72"},
		// Names go by their function, not by their caller.
		{"global s : i32 = 1 ; fn g ( x : i32 , y : i32 ) @b ensures x == 2 and y == 1 and s == 1 ; { } fn f ( y : i32 , x : i32 ) @a ensures y == 1 and x == 2 ; { let z : i32 = 3 ; call g ( x , y ) ; }", []int{1, 2}, nil, "call f 1,2; call g 2,1; ensures@b 1; return g 0; ensures@a 1; return f 0; done 0 i32:1"},
	})
}
