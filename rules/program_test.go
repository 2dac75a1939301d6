package rules

import (
	"fmt"
	"strings"
	"testing"

	"calliper/api"
	"calliper/typ"
)

func TestProgramsWithoutFaults(t *testing.T) {
	wantFaults(t, "5.1", []sample{
		{"", ""},
		{"global x : i32 = 3 ;", ""},
		{"fn f ( ) { }", ""},
		{"fn f ( ) : u8 { }", ""},
		{"global x : i8 ; global a : u8 [ 16 ] ; fn f ( y : i8 , b : u8 [ 4 ] ) : i32 requires x < y ; requires a [ 15 ] == b [ 3 ] ; ensures result == old ( x + a [ 0 ] ) ; assigns x , a , b ; " +
			"{ let i : i32 = 0 ; let c : u8 [ 4 ] ; while i < 4 invariant i <= 4 and c [ 0 ] == 0 ; assigns i , x , b ; { b [ i ] = a [ x + i ] ; let j : i32 = i ; j = j + 1 ; i = j ; if i == 3 { break ; } else { continue ; } } " +
			"call x = f ( y , c ) ; call i = f ( c [ y ] , b ) ; call g ( ) ; input x ; assert c [ 3 ] > 1 ; return i ; } fn g ( ) { return ; }", ""},
	})
}

func TestGlobals(t *testing.T) {
	wantFaults(t, "5.1", []sample{
		{"global x : i8 ; global y : i8 ; global @a x : u8 ; global @b x : i8 [ 2 ] ; global @c y : i8 ;", "twice(x)@a twice(x)@b twice(y)@c"},
		{"global a : i8 [ 0 ] ; global b : i8 [ 1 ] ; global c : i8 [ 16 ] ; global @a d : i8 [ 17 ] ; global @b e : i8 [ 4294967295u ] ;", "size(d)@a size(e)@b"},
		{"global a : i8 [ 1 ] = 0 ; global @a b : i8 [ 1 ] = 1 ; global @b c : i8 [ 16 ] = - 1 ; global @c d : i8 [ 17 ] = 5 ;", "init(b)@a init(c)@b size(d)@c init(d)@c"},
		{"global a : i8 ; global @a a : i8 [ 17 ] = 1 ; global @b a : u8 = - 1 ;", "twice(a)@a size(a)@a init(a)@a twice(a)@b init(a)@b"},
		// What has a size of 0 is a scalar.
		{"global a : u8 [ 0 ] = 255 ; global @a b : u8 [ 0 ] = 256 ; fn f ( ) assigns a ; { a = 1 ; @b a [ 0 ] = 1 ; }", "init(b)@a kind(a)@b"},
	})
}

func TestFirstValues(t *testing.T) {
	number := func(v int) string { return strings.Replace(fmt.Sprint(v), "-", "- ", 1) + "u" }
	for ty := api.I8; ty <= api.U32; ty++ {
		least, greatest := typ.Min(ty), typ.Max(ty)
		for v, want := range map[int]string{least: "", greatest: "", 0: "", least - 1: "init(x)@a", greatest + 1: "init(x)@a"} {
			if v > typ.Max(api.U32) {
				continue
			}
			wantFaults(t, "5.1", []sample{{"global @a x : " + typ.Name(ty) + " = " + number(v) + " ;", want}})
		}
	}
}

func TestFunctionsAndParameters(t *testing.T) {
	wantFaults(t, "5.1", []sample{
		{"global g : i8 ; fn @a g ( ) { } fn f ( ) { } fn @b f ( ) { } fn @c f ( ) { } fn @d g ( ) { }", "twice(g)@a twice(f)@b twice(f)@c twice(g)@d"},
		{"global g : i8 ; fn f ( @a g : i8 , x : i8 , @b x : u8 , @c g : i8 [ 2 ] , @d x : i8 [ 17 ] ) { }", "twice(g)@a twice(x)@b twice(g)@c twice(x)@d size(x)@d"},
		{"fn f ( a : i8 [ 0 ] , b : i8 [ 1 ] , c : i8 [ 16 ] , @a d : i8 [ 17 ] ) { }", "size(d)@a"},
		// A function's name and a parameter's, or that of another function's, do not meet.
		{"fn f ( f : i8 , g : i8 ) { } fn g ( f : i8 , g : i8 ) { }", ""},
		{"fn f ( ) { let f : i8 = 1 ; let g : i8 = f ; g = f ; } fn g ( f : i8 ) { let g : i8 = f ; }", ""},
		// All globals come ahead of all functions, wherever they stand.
		{"fn @a g ( ) { } global g : i8 ;", "twice(g)@a"},
		{"fn f ( @a g : i8 ) { } global g : i8 ;", "twice(g)@a"},
		{"fn f ( ) { @a x = 1 ; } global @b g : i8 = 128 ;", "init(g)@b none(x)@a"},
		{"fn f ( ) assigns g ; { g = 1 ; } global g : i8 ;", ""},
		// Each function with its parameters, then the next one.
		{"fn f ( x : i8 , @a x : i8 ) { } fn @b f ( y : i8 [ 2 ] , @c y : i8 [ 18 ] ) { } fn @d f ( ) { }", "twice(x)@a twice(f)@b twice(y)@c size(y)@c twice(f)@d"},
		// A parameter of size 0 is a scalar.
		{"fn f ( x : i8 [ 0 ] ) { x = 1 ; @a x [ 0 ] = 1 ; }", "kind(x)@a"},
	})
}

func TestOrderOfTheWhole(t *testing.T) {
	wantFaults(t, "5.1", []sample{
		// Globals, heads of functions, then of each function its clauses and its body.
		{"global g : i8 ; fn @a f ( x : i8 , @b x : i8 ) ensures @c q == 1 ; requires @d p == 1 ; assigns r ; ensures @e s == 1 ; { @f y = 1 ; } global @g g : i8 ; fn @h f ( @i g : i8 ) requires @j t == 1 ; { @k u = 1 ; }",
			"twice(g)@g twice(x)@b twice(f)@h twice(g)@i none(p)@d none(q)@c none(s)@e none(r)@a none(y)@f none(t)@j none(u)@k"},
		{"fn @a f ( ) requires @b old ( 1 ) == 1 and @c x < 1 ; requires @d y < 1 ; assigns z ; assigns w , z ; { @e break ; } fn g ( ) : i8 { @f return ; @g continue ; }",
			"old()@b none(x)@c none(y)@d none(z)@a none(w)@a none(z)@a loop()@e result()@f loop()@g"},
	})
}

// scalars is n `let`s of scalars, from a number on.
func scalars(from, n int) string {
	s := ""
	for i := range n {
		s += fmt.Sprintf("let v%d : i8 = 0 ; ", from+i)
	}
	return s
}

func TestTooManyScalars(t *testing.T) {
	for _, c := range []struct {
		head, inner string
		lets        int // that go in yet
	}{
		{"fn @a f ( ) { ", "} ", 20},
		{"fn @a f ( ) : i8 { ", "} ", 19},
		{"fn @a f ( x : i8 ) { ", "} ", 18},
		{"fn @a f ( x : i8 , y : u32 ) : i8 { ", "} ", 15},
		{"fn @a f ( x : i8 , b : i8 [ 3 ] ) { let c : i8 [ 2 ] ; ", "} ", 18},
		{"global g : i8 ; global h : i8 [ 2 ] ; fn @a f ( x : i8 ) : i8 { ", "} ", 15},
		{"fn @a f ( ) { if 1 < 2 { let p : i8 = 1 ; } else { while 1 < 2 { let q : i8 = 1 ; } } while 1 < 2 { ", "} } ", 18},
		{"fn @a f ( ) { if 1 < 2 { } else { ", "} } ", 20},
	} {
		if c.lets > api.MaxVars {
			t.Fatal(c.lets)
		}
		wantFaults(t, "5.1", []sample{
			{c.head + scalars(0, c.lets) + c.inner, ""},
			{c.head + scalars(0, c.lets+1) + c.inner, "many(f)@a"},
			{c.head + scalars(0, c.lets+9) + c.inner, "many(f)@a"},
			// Behind all else of its function.
			{c.head + scalars(0, c.lets+1) + "@b n = 1 ; " + c.inner + "fn @c f ( ) { " + scalars(0, api.MaxVars+1) + "@d break ; }", "twice(f)@c none(n)@b many(f)@a loop()@d many(f)@c"},
		})
	}
}

func TestManyByGlobalsAlone(t *testing.T) {
	globals := ""
	for i := range api.MaxVars / 2 {
		globals += fmt.Sprintf("global g%d : i8 ; ", i)
	}
	wantFaults(t, "5.1", []sample{
		{globals + "fn f ( ) { }", ""},
		{globals + "fn @a f ( ) : i8 { }", "many(f)@a"},
		{globals + "fn f ( ) { } fn @a g ( x : i8 ) { } fn h ( a : i8 [ 2 ] ) { let b : i8 [ 2 ] ; } fn @b i ( ) { let x : i8 = 0 ; }", "many(g)@a many(i)@b"},
		{globals + "global x : i8 ;", ""},
		{"global x : i8 ; " + globals + "fn @a f ( ) requires @b y < 1 ; { @c z = 1 ; } fn @d g ( ) { }", "none(y)@b none(z)@c many(f)@a many(g)@d"},
	})
}
