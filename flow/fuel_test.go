package flow

import (
	"reflect"
	"strings"
	"testing"

	"calliper/api"
)

// TestFuel: each row's program takes so much fuel, and not one less.
func TestFuel(t *testing.T) {
	for _, c := range []struct {
		body string
		need int
	}{
		// Where a body is at its end, and where nothing stands in it, nothing is spent.
		{"", 0},
		// An IDo, of each kind of statement; behind a return nothing is run.
		{"let x : i32 = 1 ;", 1}, {"let a : i32 [ 3 ] ;", 1}, {"n = 5 ;", 1}, {"b [ 1 ] = 5 ;", 1}, {"input n ;", 1}, {"assert n == 0 ;", 1}, {"assert n == 0 and n < 1 and not n > 2 ;", 1}, {"return ;", 1}, {"return ; return ; return ;", 1}, {"n = 1 ; n = 2 ; n = 3 ;", 3},
		// A call takes its own, and what the callee's instructions take; what contracts say takes none.
		{"call none ( ) ;", 1}, {"call three ( ) ;", 4}, {"call three ( ) ; call three ( ) ;", 8}, {"call nest ( ) ;", 6},
		// An if takes one for each relation that is come to.
		{"if n == 0 { }", 1}, {"if n == 1 { n = 2 ; }", 1}, {"if n == 0 { n = 2 ; } else { n = 3 ; n = 4 ; }", 2}, {"if n == 1 { n = 2 ; } else { n = 3 ; n = 4 ; }", 3}, {"if n == 0 { if n == 0 { if n == 0 { } } }", 3},
		{"if not n == 0 { }", 1}, {"if not not not n == 1 { n = 2 ; }", 2},
		{"if n == 0 and n < 1 { }", 2}, {"if n == 1 and n < 1 { }", 1}, {"if n == 0 or n < 1 { }", 1}, {"if n == 1 or n < 1 { }", 2}, {"if not [ n == 1 or n > 1 ] { n = 2 ; }", 3}, {"if not [ n == 0 or n > 1 ] { n = 2 ; }", 1},
		{"if n == 0 and n < 1 and n < 2 { }", 3}, {"if n == 0 and n > 1 and n < 2 { }", 2}, {"if n > 0 and n > 1 or n == 0 { }", 2}, {"if [ n > 0 or n == 0 ] and not [ n > 3 or n > 4 ] { }", 4},
		// A look at a while: its head, each invariant, the relations that are come to. A break, a continue takes none.
		{"while n > 0 { }", 2}, {"while n > 0 invariant n == 0 ; invariant n < 1 ; { }", 4}, {"while n > 0 invariant n == 0 and n < 1 or n > 2 ; { }", 3}, {"while n < 1 { n = n + 1 ; }", 5}, {"while n < 3 { n = n + 1 ; }", 11}, {"while n < 3 invariant n < 9 ; { n = n + 1 ; }", 15},
		{"while n < 3 and n < 2 { n = n + 1 ; }", 11}, {"while n > 0 or n < 2 { n = 5 ; if n > 4 { return ; } }", 6},
		{"while n < 3 { break ; }", 2}, {"while n < 3 { n = n + 1 ; continue ; n = 9 ; }", 11}, {"while n < 3 { return ; }", 3}, {"while n < 3 { if n == 0 { break ; } }", 3}, {"while n < 3 { n = n + 1 ; if n < 3 { continue ; } }", 14},
		{"while n < 2 { n = n + 1 ; let m : i32 = 0 ; while m < 2 { m = m + 1 ; } }", 2*(2+1+1+8) + 2},
	} {
		p := mustProgram(t, "global n : i32 ; global b : i8 [ 2 ] ; fn none ( ) requires 1 > 0 ; { } fn three ( ) { let x : i32 = 1 ; x = 2 ; x = 3 ; } fn nest ( ) { call three ( ) ; return ; } fn f ( ) requires 2 > 1 ; ensures 2 > 1 ; ensures 3 > 1 ; assigns n , b ; { "+c.body+" }")
		for fuel := range c.need + 3 {
			want := api.EndDone
			if fuel < c.need {
				want = api.EndFuel
			}
			if x := Run(p, "f", nil, nil, nil, fuel); x.End != want {
				t.Errorf("13.1: %s with fuel %d: end %d, want %d", c.body, fuel, x.End, want)
			}
		}
		if x := Run(p, "f", nil, nil, nil, api.MaxFuel); x.End != api.EndDone {
			t.Errorf("13.1: %s with fuel %d: end %d", c.body, api.MaxFuel, x.End)
		}
	}
}

// wantFuels holds a run with fuel from 0 on against what it tells.
func wantFuels(t *testing.T, src string, args, inputs []int, wants []string) {
	t.Helper()
	src, marks := unmark(src)
	p := mustProgram(t, src)
	for fuel, want := range wants {
		if got := text(Run(p, "f", args, nil, inputs, fuel), marks); got != want {
			t.Errorf("13.1: %s\nfuel %d tells\n%s, want\n%s", src, fuel, got, want)
		}
	}
}

// TestWhereFuelEnds: it is asked ahead of each instruction, of all that it looks at and of all that it tells.
func TestWhereFuelEnds(t *testing.T) {
	const first, in = "call f 1; ", "call g 1; requires@a 1; "
	const looked = first + "invariant@c 1; invariant@d 1; "
	const out = looked + in + "input 7; ensures@b 1; return g 0; "
	wantFuels(t, "fn g ( x : i32 ) @a requires x > 0 ; @b ensures x > 0 ; { input x ; } fn f ( x : i32 ) { while x > 0 @c invariant x >= 0 ; @d invariant x < 9 ; { call g ( x ) ; x = x - 1 ; } @e assert x == 1 ; }", []int{1}, []int{7}, []string{
		first + "fuel",                // the head
		first + "fuel",                // the first invariant
		first + "invariant@c 1; fuel", // the second one
		looked + "fuel",               // the relation
		looked + "fuel",               // the call
		looked + in + "fuel",          // the input
		out + "fuel",                  // x = x - 1; at the callee's end nothing is spent
		out + "fuel",                  // the head
		out + "fuel",                  // the first invariant
		out + "invariant@c 1; fuel",   // the second one
		out + "invariant@c 1; invariant@d 1; fuel", // the relation
		out + "invariant@c 1; invariant@d 1; fuel", // the assert
		out + "invariant@c 1; invariant@d 1; assert@e 0; fail",
		out + "invariant@c 1; invariant@d 1; assert@e 0; fail",
	})
	// A relation that is not undefined, then one that is; neither is looked at without fuel.
	wantFuels(t, "fn f ( x : i32 ) { if x == 0 and 1 @b / x == 1 { } }", []int{0}, nil, []string{"call f 0; fuel", "call f 0; fuel", "call f 0; div@b; ub", "call f 0; div@b; ub"})
	wantFuels(t, "fn f ( x : i32 ) { x = 1 @b / x ; }", []int{0}, nil, []string{"call f 0; fuel", "call f 0; div@b; ub"})
	wantFuels(t, "fn f ( x : i32 ) : i32 @a ensures 1 @b / x == 1 ; { return 5 ; }", []int{0}, nil, []string{"call f 0; fuel", "call f 0; ensures@a 0; fail"})
	// Requires are looked at ahead of all fuel.
	wantFuels(t, "fn f ( x : i32 ) @a requires x > 0 ; @b requires x > 1 ; { x = 2 ; }", []int{1}, nil, []string{"call f 1; requires@a 1; requires@b 0; fail", "call f 1; requires@a 1; requires@b 0; fail"})
	wantFuels(t, "fn f ( x : i32 ) @a requires x > 0 ; @b ensures x > 1 ; { }", []int{1}, nil, []string{"call f 1; requires@a 1; ensures@b 0; fail"})
	// Without fuel no call is opened, and no argument looked at.
	wantFuels(t, "fn g ( x : i32 ) { } fn f ( x : i32 ) { call g ( x ) ; call g ( 1 @b / x ) ; }", []int{0}, nil, []string{"call f 0; fuel", "call f 0; call g 0; return g 0; fuel", "call f 0; call g 0; return g 0; div@b; ub"})
}

// TestMaxFuel: a loop that does not end takes all there is.
func TestMaxFuel(t *testing.T) {
	src, marks := unmark("fn f ( ) { while 1 < 2 @a invariant 1 > 0 ; { } }")
	for _, fuel := range []int{0, 1, 2, 3, 4, 5, 50, api.MaxFuel} {
		x := Run(mustProgram(t, src), "f", nil, nil, nil, fuel)
		// Each look takes three: of the head, of the invariant, of the relation.
		want := "call f; " + strings.Repeat("invariant@a 1; ", (fuel+1)/3) + "fuel"
		if got := text(x, marks); got != want {
			t.Errorf("13.1: fuel %d: %d events, end %d", fuel, len(x.Events), x.End)
		}
	}
}

// growth takes 32 fuel of 3.
const growth = "global g : i32 = 1 ; fn add ( x : i32 , y : i32 ) : i32 requires x < 100 ; ensures result == x + y ; assigns g ; { g = g + 1 ; x = x + y ; return x ; } fn main ( n : i8 ) : i16 assigns g ; { let s : i32 = 0 ; let i : i32 = 0 ; while i < n invariant s >= 0 ; { call s = add ( s , i ) ; i = i + 1 ; } input g ; assert s == 3 ; return s ; }"

// TestMoreFuelGoesOn: the events with less fuel are the first of those with more.
func TestMoreFuelGoesOn(t *testing.T) {
	p := mustProgram(t, growth)
	all := Run(p, "main", []int{3}, nil, []int{7}, api.MaxFuel)
	if all.End != api.EndDone || all.Result != 3 {
		t.Fatalf("13.1: %+v", all)
	}
	least := 0
	for fuel := range 60 {
		x := Run(p, "main", []int{3}, nil, []int{7}, fuel)
		if len(x.Events) < least || !reflect.DeepEqual(x.Events, all.Events[:len(x.Events)]) {
			t.Errorf("13.1: fuel %d: events %v", fuel, x.Events)
		}
		least = len(x.Events)
		if x.End == api.EndFuel && (x.Result != 0 || len(x.Globals) > 0 || fuel >= 32) || x.End != api.EndFuel && (fuel < 32 || !reflect.DeepEqual(x, all)) {
			t.Errorf("13.1: fuel %d: %+v", fuel, x)
		}
	}
}
