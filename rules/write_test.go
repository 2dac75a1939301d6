package rules

import "testing"

const wide = "global g : i8 ; global h : i8 [ 2 ] ; "

func TestWhatAFunctionWrites(t *testing.T) {
	wantFaults(t, "5.4", []sample{
		{wide + "fn f ( x : i8 , a : i8 [ 2 ] ) { x = 1 ; @a g = 1 ; @b h [ 0 ] = 1 ; @c a [ 0 ] = 1 ; input x ; @d input g ; let y : i8 = 1 ; let b : i8 [ 2 ] ; y = 1 ; b [ 0 ] = 1 ; input y ; }", "write(g)@a write(h)@b write(a)@c write(g)@d"},
		{wide + "fn f ( x : i8 , a : i8 [ 2 ] ) assigns g , h , a ; { g = 1 ; h [ 0 ] = 1 ; a [ 0 ] = 1 ; input g ; }", ""},
		{wide + "fn f ( x : i8 , a : i8 [ 2 ] ) assigns h ; assigns a ; { @a g = 1 ; h [ 0 ] = 1 ; a [ 0 ] = 1 ; }", "write(g)@a"},
		{wide + "fn f ( x : i8 , a : i8 [ 2 ] ) assigns nothing ; { if 1 < 2 { @a g = 1 ; } else { @b h [ 0 ] = 1 ; while 1 < 2 { @c a [ 0 ] = 1 ; } } }", "write(g)@a write(h)@b write(a)@c"},
		// Reading is no writing.
		{wide + "fn f ( a : i8 [ 2 ] ) : i8 requires g < h [ 0 ] ; { let x : i8 = g + h [ g ] + a [ 0 ] ; assert g < a [ 1 ] ; return g ; }", ""},
		// What is of the wrong kind is written all the same; what there is not, is not.
		{wide + "fn f ( x : i8 , a : i8 [ 2 ] ) { @a h = 1 ; @b g [ 0 ] = 1 ; @c a = 1 ; @d input h ; @e x [ 0 ] = 1 ; @f n = 1 ; @g n [ 0 ] = 1 ; }", "kind(h)@a write(h)@a kind(g)@b write(g)@b kind(a)@c write(a)@c kind(h)@d write(h)@d kind(x)@e none(n)@f none(n)@g"},
		// A function's Names are its own.
		{wide + "fn e ( ) assigns g ; { g = 1 ; } fn f ( ) { @a g = 1 ; } fn i ( a : i8 [ 2 ] ) assigns a ; { a [ 0 ] = 1 ; } fn j ( a : i8 [ 2 ] ) { @b a [ 0 ] = 1 ; }", "write(g)@a write(a)@b"},
		// A `let` of a name that is there already is what its name stands for.
		{"global g : i8 ; fn f ( ) { @a let g : i8 = 1 ; g = 2 ; } fn e ( @b g : i8 ) { g = 1 ; }", "twice(g)@b twice(g)@a"},
	})
}

func TestNamesOfFunctions(t *testing.T) {
	wantFaults(t, "5.4", []sample{
		{wide + "fn @a f ( x : i8 , a : i8 [ 2 ] ) assigns g , x , h , y , a , f , b , x ; { let y : i8 = 1 ; let b : i8 [ 2 ] ; }", "none(x)@a none(y)@a none(f)@a none(b)@a none(x)@a"},
		{wide + "fn f ( a : i8 [ 2 ] ) assigns g , g , a , h , a ; { } fn @a e ( ) assigns a ; { }", "none(a)@a"},
	})
}

func TestWhatACallWrites(t *testing.T) {
	const w = wide + "fn w ( a : i8 [ 2 ] , x : i8 , b : i8 [ 2 ] ) : i8 assigns b , g , a ; { return 1 ; } fn n ( a : i8 [ 2 ] ) : i8 { return 1 ; } fn v ( ) assigns h ; { } "
	wantFaults(t, "5.4", []sample{
		// By the order of To's Names.
		{w + "fn f ( p : i8 [ 2 ] , q : i8 [ 2 ] ) { @a call w ( p , 1 , q ) ; @b call w ( q , 1 , p ) ; }", "write(q)@a write(g)@a write(p)@a write(p)@b write(g)@b write(q)@b"},
		{w + "fn f ( p : i8 [ 2 ] , q : i8 [ 2 ] ) assigns p , q , g ; { call w ( p , 1 , q ) ; call g = w ( q , 1 , p ) ; @a call v ( ) ; }", "write(h)@a"},
		{w + "fn f ( p : i8 [ 2 ] , q : i8 [ 2 ] ) assigns q ; { @a call w ( p , 1 , q ) ; }", "write(g)@a write(p)@a"},
		// Its own arrays are nobody's to say.
		{w + "fn f ( ) { let r : i8 [ 2 ] ; let s : i8 [ 2 ] ; @a call w ( r , 1 , s ) ; call n ( r ) ; }", "write(g)@a"},
		// What it assigns nothing of.
		{w + "fn f ( p : i8 [ 2 ] ) { call n ( p ) ; let x : i8 = 0 ; call x = n ( p ) ; }", ""},
		// Its Name comes first, and is told again if To says it too.
		{w + "fn f ( p : i8 [ 2 ] , q : i8 [ 2 ] ) { @a call g = w ( p , 1 , q ) ; @b call g = n ( p ) ; }", "write(g)@a write(q)@a write(g)@a write(p)@a write(g)@b"},
		{w + "fn f ( ) : i8 assigns h ; { call v ( ) ; @a call g = f ( ) ; @b call h = f ( ) ; return 1 ; }", "write(g)@a kind(h)@b"},
		// A call that does not fit writes what is there.
		{w + "fn f ( p : i8 [ 2 ] , q : i8 [ 2 ] ) { @a call w ( p ) ; @b call w ( 1 , 1 , p ) ; @c call w ( ) ; @d call w ( h , 1 , q ) ; @e call g = v ( ) ; @f call g = u ( ) ; @g call w ( @h z , 1 , p [ 0 ] ) ; }",
			"args(w)@a write(g)@a write(p)@a args(w)@b write(p)@b write(g)@b args(w)@c write(g)@c args(w)@d write(q)@d write(g)@d write(h)@d args(v)@e write(g)@e write(h)@e none(u)@f write(g)@f none(z)@h args(w)@g write(g)@g"},
		// Names that there are not write nothing, nor does what is a scalar parameter's.
		{"global g : i8 ; fn @a w ( x : i8 ) assigns x , y ; { } fn f ( p : i8 , y : i8 [ 2 ] ) { call w ( p ) ; call w ( g ) ; }", "none(x)@a none(y)@a"},
		// To's body and its own calls do not count: its Names do.
		{"global g : i8 ; fn w ( ) { @a g = 1 ; } fn f ( ) { call w ( ) ; }", "write(g)@a"},
		// A global that a call writes is a global, whatever its name stands for here.
		{"global g : i8 ; fn w ( ) assigns g ; { } fn f ( ) { @a let g : i8 = 1 ; @b call w ( ) ; }", "twice(g)@a write(g)@b"},
	})
}

func TestWhatLoopsWrite(t *testing.T) {
	wantFaults(t, "5.4", []sample{
		// Without Names a loop says nothing; with some, or `nothing`, it does.
		{"fn f ( x : i8 ) { while x < 1 { x = 1 ; } while x < 1 assigns x ; { x = 1 ; input x ; } while x < 1 assigns nothing ; { @a x = 1 ; @b input x ; } x = 1 ; }", "write(x)@a write(x)@b"},
		// What is made in it is its own; what is made in a block of it, too.
		{"fn f ( x : i8 ) { while x < 1 assigns nothing ; { let y : i8 = 1 ; y = 2 ; let a : i8 [ 2 ] ; a [ 0 ] = 1 ; if x < 1 { let z : i8 = 1 ; z = y ; } else { y = 3 ; } } }", ""},
		{"fn f ( x : i8 ) { let y : i8 = 1 ; let a : i8 [ 2 ] ; while x < 1 assigns x ; { @a y = 2 ; @b a [ 0 ] = 1 ; if x < 1 { @c y = 2 ; } else { x = 1 ; } } }", "write(y)@a write(a)@b write(y)@c"},
		// Made in a block of the function that the loop stands in.
		{"fn f ( x : i8 ) { if x < 1 { let y : i8 = 1 ; while x < 1 assigns nothing ; { @a y = 1 ; } } }", "write(y)@a"},
		// From outside in, each that does not say it.
		{"fn f ( x : i8 ) { while x < 1 assigns nothing ; { while x < 1 { while x < 1 assigns x ; { while x < 1 assigns nothing ; { @a x = 1 ; } } } } }", "write(x)@a write(x)@a"},
		{"fn f ( x : i8 ) { while x < 1 assigns x ; { let y : i8 = 1 ; while y < 1 assigns nothing ; { let z : i8 = 1 ; @a y = 1 ; @b x = 1 ; while z < 1 assigns y ; { @c y = 1 ; @d z = 1 ; @e x = 1 ; } z = 2 ; } y = 2 ; } }",
			"write(y)@a write(x)@b write(y)@c write(z)@d write(x)@e write(x)@e"},
		// The function first, then the loops.
		{wide + "fn f ( a : i8 [ 2 ] ) { while g < 1 assigns nothing ; { @a g = 1 ; @b a [ 0 ] = 1 ; while g < 1 assigns h ; { @c h [ 0 ] = 1 ; @d g = 1 ; } } }", "write(g)@a write(g)@a write(a)@b write(a)@b write(h)@c write(h)@c write(g)@d write(g)@d write(g)@d"},
		{wide + "fn f ( a : i8 [ 2 ] ) assigns g , a , h ; { while g < 1 assigns g ; { g = 1 ; @a a [ 0 ] = 1 ; @b h [ 0 ] = 1 ; } }", "write(a)@a write(h)@b"},
		// A loop saying what its function does not.
		{wide + "fn f ( a : i8 [ 2 ] ) { while g < 1 assigns g , a ; { @a g = 1 ; @b a [ 0 ] = 1 ; } }", "write(g)@a write(a)@b"},
		// A loop that is over is not around.
		{"fn f ( x : i8 ) { while x < 1 assigns nothing ; { } x = 1 ; while x < 1 { while x < 1 assigns nothing ; { } x = 1 ; } }", ""},
		{"fn f ( ) { let x : i8 = 1 ; while x < 1 assigns nothing ; { @a x = 1 ; } } fn e ( x : i8 ) { x = 1 ; }", "write(x)@a"},
		// A `let` writes nothing that was there; what there is not is not written.
		{"fn f ( ) { @a while 1 < 2 assigns y ; { let y : i8 = 1 ; y = 2 ; @b n = 1 ; } }", "none(y)@a none(n)@b"},
	})
}

func TestCallsInLoops(t *testing.T) {
	const w = wide + "fn w ( a : i8 [ 2 ] , b : i8 [ 2 ] ) : i8 assigns a , g ; { return 1 ; } "
	wantFaults(t, "5.4", []sample{
		{w + "fn f ( p : i8 [ 2 ] , q : i8 [ 2 ] ) assigns g , p ; { let x : i8 = 0 ; while x < 1 assigns x ; { @a call x = w ( p , q ) ; while x < 1 assigns g ; { @b call x = w ( p , q ) ; } } }", "write(p)@a write(g)@a write(x)@b write(p)@b write(p)@b write(g)@b"},
		{w + "fn f ( ) assigns g ; { let r : i8 [ 2 ] ; while 1 < 2 assigns g ; { let s : i8 [ 2 ] ; call w ( s , r ) ; @a call w ( r , s ) ; while 1 < 2 assigns g , r ; { @b call w ( s , r ) ; } } }", "write(r)@a write(s)@b"},
		// Each thing that is written with all that is wrong with it, then the next.
		{w + "fn f ( p : i8 [ 2 ] , q : i8 [ 2 ] ) { while 1 < 2 assigns nothing ; { @a call g = w ( p , q ) ; } }", "write(g)@a write(g)@a write(p)@a write(p)@a write(g)@a write(g)@a"},
		// A scalar that is handed over for an array is written too.
		{w + "fn f ( x : i8 , q : i8 [ 2 ] ) assigns g ; { while 1 < 2 assigns g ; { @a call w ( x , q ) ; } }", "args(w)@a write(x)@a"},
	})
}

func TestNamesOfLoops(t *testing.T) {
	wantFaults(t, "5.4", []sample{
		{wide + "fn f ( x : i8 , a : i8 [ 2 ] ) { let y : i8 = 1 ; let b : i8 [ 2 ] ; while 1 < 2 assigns g , h , x , a , y , b , y ; { } @a while 1 < 2 assigns n , x , f , n , z ; { let z : i8 = 1 ; } let n : i8 = 1 ; }", "none(n)@a none(f)@a none(n)@a none(z)@a"},
		{"fn f ( ) { while 1 < 2 { let y : i8 = 1 ; while 1 < 2 assigns y ; { } } if 1 < 2 { let z : i8 = 1 ; } @a while 1 < 2 assigns y , z ; { } }", "none(y)@a none(z)@a"},
		// Of the statement's own place, ahead of its body.
		{"fn f ( ) { while 1 < 2 { @a while 1 < 2 invariant 1 < 2 ; assigns n ; { @b m = 1 ; } } }", "none(n)@a none(m)@b"},
	})
}
