package rules

import "testing"

func TestWhatIsSet(t *testing.T) {
	wantFaults(t, "5.3", []sample{
		{"global g : i8 ; global h : i8 [ 2 ] ; fn f ( x : i8 , a : i8 [ 2 ] ) assigns g , h , a ; { let y : i8 = 1 ; let b : i8 [ 2 ] ; g = 1 ; x = 1 ; y = 1 ; @a h = 1 ; @b a = 1 ; @c b = 1 ; @d n = 1 ; }", "kind(h)@a kind(a)@b kind(b)@c none(n)@d"},
		{"global g : i8 ; global h : i8 [ 2 ] ; fn f ( x : i8 , a : i8 [ 2 ] ) assigns g , h , a ; { let y : i8 = 1 ; let b : i8 [ 2 ] ; @a g [ 0 ] = 1 ; @b x [ 0 ] = 1 ; @c y [ 0 ] = 1 ; h [ 0 ] = 1 ; a [ 0 ] = 1 ; b [ 0 ] = 1 ; @d n [ 0 ] = 1 ; }", "kind(g)@a kind(x)@b kind(y)@c none(n)@d"},
		{"global g : i8 ; global h : i8 [ 2 ] ; fn f ( x : i8 , a : i8 [ 2 ] ) assigns g , h , a ; { let y : i8 = 1 ; let b : i8 [ 2 ] ; input g ; input x ; input y ; @a input h ; @b input a ; @c input b ; @d input n ; }", "kind(h)@a kind(a)@b kind(b)@c none(n)@d"},
		// The index, the value, then what is set.
		{"fn f ( ) { @a p [ @b q ] = @c r ; @d s = @e t ; }", "none(q)@b none(r)@c none(p)@a none(t)@e none(s)@d"},
	})
}

func TestReturnsAndLoops(t *testing.T) {
	wantFaults(t, "5.3", []sample{
		{"fn f ( ) : i8 { @a return ; return 1 ; } fn g ( ) { return ; @b return 1 ; @c return @d x ; }", "result()@a result()@b none(x)@d result()@c"},
		{"fn f ( ) : i8 { if 1 < 2 { while 1 < 2 { @a return ; } } else { return 1 ; } }", "result()@a"},
		{"fn f ( ) { @a break ; @b continue ; if 1 < 2 { @c break ; } else { @d continue ; } while 1 < 2 { break ; if 1 < 2 { continue ; } else { break ; } while 1 < 2 { continue ; } break ; } @e break ; @f continue ; } fn g ( ) { @g break ; }",
			"loop()@a loop()@b loop()@c loop()@d loop()@e loop()@f loop()@g"},
	})
}

func TestOrderWithinStatements(t *testing.T) {
	wantFaults(t, "5.3", []sample{
		{"fn f ( ) { if @a p == @b q { @c r = 1 ; } else { @d s = 1 ; } @e t = 1 ; }", "none(p)@a none(q)@b none(r)@c none(s)@d none(t)@e"},
		{"fn f ( ) { @a while @b p < 1 invariant @c q < 1 ; invariant @d r < 1 ; assigns s , t ; { @e u = 1 ; @f while 1 < 2 assigns v ; { @g w = 1 ; } } @h u = 1 ; }", "none(p)@b none(q)@c none(r)@d none(s)@a none(t)@a none(u)@e none(v)@f none(w)@g none(u)@h"},
		{"fn f ( x : i8 ) { @a call @b y = @c f ( @d p , @e q ) ; }", "none(p)@d none(q)@e args(f)@a none(y)@a"},
		{"fn f ( x : i8 ) { @a call f ( @b p [ @c q ] ) ; @d call g ( @e p , @f q ) ; }", "none(q)@c none(p)@b none(p)@e none(q)@f none(g)@d"},
	})
}

func TestCallsOfWhatThereIsNot(t *testing.T) {
	wantFaults(t, "5.3", []sample{
		{"global g : i8 ; fn f ( x : i8 ) { @a call g ( ) ; @b call x ( 1 ) ; @c call h ( ) ; @d call y = h ( 1 ) ; @e call x = h ( ) ; }", "none(g)@a none(x)@b none(h)@c none(h)@d none(y)@d none(h)@e"},
		{"fn f ( ) { call g ( ) ; call f ( ) ; call h ( ) ; } fn g ( ) { call f ( ) ; } fn h ( ) { @a call hh ( ) ; }", "none(hh)@a"},
		// Of a function that there is not an array is no argument.
		{"fn f ( a : i8 [ 2 ] ) { @a call h ( @b a , 1 , @c a ) ; }", "kind(a)@b kind(a)@c none(h)@a"},
	})
}

func TestNumberOfArguments(t *testing.T) {
	const g = "fn g ( x : i8 , y : u32 ) : i8 { return 1 ; } fn h ( ) { } "
	wantFaults(t, "5.3", []sample{
		{g + "fn f ( ) { @a call g ( ) ; @b call g ( 1 ) ; call g ( 1 , 2 ) ; @c call g ( 1 , 2 , 3 ) ; call h ( ) ; @d call h ( 1 ) ; }", "args(g)@a args(g)@b args(g)@c args(h)@d"},
		// A result where there is none; one that is left alone.
		{g + "fn f ( x : i8 ) { call x = g ( 1 , 2 ) ; call g ( 1 , 2 ) ; @a call x = h ( ) ; call h ( ) ; }", "args(h)@a"},
		// Once, though all be wrong; and the name is looked at.
		{g + "fn f ( a : i8 [ 2 ] , b : i8 [ 3 ] ) assigns a , b ; { @a call y = h ( 1 , 2 ) ; @b call a = g ( 1 ) ; @c call y = g ( 1 , 2 ) ; @d call a = f ( 1 , 2 , 3 ) ; @e call a = f ( b , b ) ; @f call f ( 1 , 2 ) ; }", "args(h)@a none(y)@a args(g)@b kind(a)@b none(y)@c args(f)@d kind(a)@d args(f)@e kind(a)@e args(f)@f"},
		// Of functions of one name the first one is called.
		{"fn g ( x : i8 ) { } fn @a g ( ) : i8 { return 1 ; } fn f ( ) { call g ( 1 ) ; @b call g ( ) ; }", "twice(g)@a args(g)@b"},
	})
}

func TestArraysAsArguments(t *testing.T) {
	const g = "global h : i8 [ 2 ] ; global s : i8 ; fn g ( a : i8 [ 2 ] , x : i8 , b : i8 [ 2 ] ) { } "
	wantFaults(t, "5.3", []sample{
		{g + "fn f ( p : i8 [ 2 ] , q : i8 [ 2 ] ) { let r : i8 [ 2 ] ; call g ( p , 1 , q ) ; call g ( q , p [ 0 ] , p ) ; call g ( r , 1 , p ) ; call g ( q , 1 , r ) ; if 1 < 2 { let u : i8 [ 2 ] ; call g ( u , 1 , r ) ; } }", ""},
		// One array for two.
		{g + "fn f ( p : i8 [ 2 ] ) { @a call g ( p , 1 , p ) ; let r : i8 [ 2 ] ; @b call g ( r , 1 , r ) ; call g ( r , r [ 0 ] + p [ 1 ] , p ) ; }", "args(g)@a args(g)@b"},
		// Of another type, another size; a global; a scalar; none; more than one variable.
		{g + "fn f ( p : i8 [ 2 ] , q : u8 [ 2 ] , r : i8 [ 3 ] , x : i8 ) { @a call g ( q , 1 , p ) ; @b call g ( p , 1 , q ) ; @c call g ( r , 1 , p ) ; @d call g ( p , 1 , r ) ; @e call g ( h , 1 , p ) ; @f call g ( p , 1 , h ) ; @g call g ( x , 1 , p ) ; @h call g ( p , 1 , s ) ; }",
			"args(g)@a args(g)@b args(g)@c args(g)@d args(g)@e args(g)@f args(g)@g args(g)@h"},
		{g + "fn f ( p : i8 [ 2 ] , q : i8 [ 2 ] ) { @a call g ( @b n , 1 , p ) ; @c call g ( p , 1 , 2 ) ; @d call g ( p , 1 , q [ 0 ] ) ; @e call g ( p , 1 , @f q + 1 ) ; @g call g ( p , 1 , - @h q ) ; @i call g ( p , 1 , i8 ( @j q ) ) ; call g ( p , 1 , ( q ) ) ; @k call g ( p , 1 , q [ @l p ] ) ; }",
			"none(n)@b args(g)@a args(g)@c args(g)@d kind(q)@f args(g)@e kind(q)@h args(g)@g kind(q)@j args(g)@i kind(p)@l args(g)@k"},
		// Of a scalar parameter an array is none; nor where there is no parameter.
		{g + "fn f ( p : i8 [ 2 ] , q : i8 [ 2 ] , r : i8 [ 2 ] ) { call g ( p , @a r , q ) ; @b call g ( p , 1 , q , @c r ) ; @d call g ( p ) ; @e call g ( p , @f r ) ; call g ( p , @g p , q ) ; }", "kind(r)@a kind(r)@c args(g)@b args(g)@d kind(r)@f args(g)@e kind(p)@g"},
		// A global that may not be handed over is no FKind; nor is one of another kind of array.
		{g + "fn f ( u : u32 [ 16 ] ) { @a call g ( h , @b h , u ) ; }", "kind(h)@b args(g)@a"},
		// A parameter of size 0 is a scalar, a `let` of size 0 is an array.
		{"fn g ( x : i8 [ 0 ] ) { } fn f ( ) { @a let z : i8 [ 0 ] ; call g ( @b z ) ; call g ( 1 ) ; }", "size(z)@a kind(z)@b"},
		// Sizes that may not be fit if they are the same.
		{"fn g ( @a x : i8 [ 17 ] ) { } fn f ( @b y : i8 [ 17 ] ) { call g ( y ) ; }", "size(x)@a size(y)@b"},
		// A function may call itself, and hand on what it was handed.
		{"fn f ( p : i8 [ 2 ] , q : i8 [ 2 ] ) : i8 assigns p ; { let r : i8 = 0 ; call r = f ( p , q ) ; return r ; }", ""},
	})
}
