package step

import (
	"reflect"
	"strings"
	"testing"

	"calliper/api"
)

// TestFuel: each row's program takes so much fuel, and not one less.
func TestFuel(t *testing.T) {
	for _, c := range []struct {
		body string
		need int
	}{
		{"", 0}, {"let x : i32 = 1 ;", 1}, {"let a : i32 [ 3 ] ;", 1}, {"n = 5 ;", 1}, {"b [ 1 ] = 5 ;", 1}, {"input n ;", 1}, {"assert n == 0 ;", 1}, {"return ;", 1}, {"return ; return ; return ;", 1}, {"n = 1 ; n = 2 ; n = 3 ;", 3},
		{"call none ( ) ;", 1}, {"call three ( ) ;", 4}, {"call three ( ) ; call three ( ) ;", 8}, {"call nest ( ) ;", 6},
		{"if n == 0 { }", 1}, {"if n == 1 { n = 2 ; }", 1}, {"if n == 0 { n = 2 ; } else { n = 3 ; n = 4 ; }", 2}, {"if n == 1 { n = 2 ; } else { n = 3 ; n = 4 ; }", 3}, {"if n == 0 { if n == 0 { if n == 0 { } } }", 3},
		// A while: its own, and one for each look.
		{"while n > 0 { }", 2}, {"while n > 0 invariant n == 0 ; invariant n < 1 ; { }", 2}, {"while n < 1 { n = n + 1 ; }", 4}, {"while n < 3 { n = n + 1 ; }", 8}, {"while n < 3 { break ; }", 3}, {"while n < 3 { n = n + 1 ; continue ; n = 9 ; }", 11}, {"while n < 3 { return ; }", 3},
		{"while n < 2 { n = n + 1 ; let m : i32 = 0 ; while m < 2 { m = m + 1 ; } }", 20},
	} {
		p := mustProgram(t, "global n : i32 ; global b : i8 [ 2 ] ; fn none ( ) requires 1 > 0 ; { } fn three ( ) { let x : i32 = 1 ; x = 2 ; x = 3 ; } fn nest ( ) { call three ( ) ; return ; } fn f ( ) ensures 2 > 1 ; assigns n , b ; { "+c.body+" }")
		for fuel := range c.need + 3 {
			want := api.EndDone
			if fuel < c.need {
				want = api.EndFuel
			}
			if x := Run(p, "f", nil, nil, nil, fuel); x.End != want {
				t.Errorf("10.3: %s with fuel %d: end %d, want %d", c.body, fuel, x.End, want)
			}
		}
		if x := Run(p, "f", nil, nil, nil, api.MaxFuel); x.End != api.EndDone {
			t.Errorf("10.3: %s with fuel %d: end %d", c.body, api.MaxFuel, x.End)
		}
	}
}

// TestWhereFuelEnds: it is asked ahead of the statement, and of all that a look at a while looks at.
func TestWhereFuelEnds(t *testing.T) {
	src, marks := unmark("fn g ( x : i32 ) @a requires x > 0 ; @b ensures x > 0 ; { input x ; } fn f ( x : i32 ) { while x > 0 @c invariant x >= 0 ; { call g ( x ) ; x = x - 1 ; } @d assert 1 / x == 0 ; }")
	p := mustProgram(t, src)
	const in = "call g 1; requires@a 1; "
	const out = in + "input 0; ensures@b 1; return g 0; "
	for fuel, want := range []string{
		"fuel", "fuel",
		"invariant@c 1; fuel",
		"invariant@c 1; " + in + "fuel",
		"invariant@c 1; " + out + "fuel", "invariant@c 1; " + out + "fuel",
		"invariant@c 1; " + out + "invariant@c 1; fuel",
		"invariant@c 1; " + out + "invariant@c 1; assert@d 0; fail", "invariant@c 1; " + out + "invariant@c 1; assert@d 0; fail",
	} {
		if got := text(Run(p, "f", []int{1}, nil, nil, fuel), marks); got != "call f 1; "+want {
			t.Errorf("10.3: fuel %d: %s, want %s", fuel, got, want)
		}
	}
}

// TestMaxFuel: a loop that does not end takes all there is.
func TestMaxFuel(t *testing.T) {
	src, marks := unmark("fn f ( ) { while 1 < 2 @a invariant 1 > 0 ; { } }")
	for _, fuel := range []int{0, 1, 2, 50, api.MaxFuel} {
		x := Run(mustProgram(t, src), "f", nil, nil, nil, fuel)
		// One fuel is the statement's; each other one is spent on a look.
		want := "call f; " + strings.Repeat("invariant@a 1; ", max(fuel-1, 0)) + "fuel"
		if got := text(x, marks); got != want {
			t.Errorf("10.3: fuel %d: %d events, end %d", fuel, len(x.Events), x.End)
		}
	}
}

// growth takes 25 fuel of 3.
const growth = "global g : i32 = 1 ; fn add ( x : i32 , y : i32 ) : i32 requires x < 100 ; ensures result == x + y ; assigns g ; { g = g + 1 ; x = x + y ; return x ; } fn main ( n : i8 ) : i16 assigns g ; { let s : i32 = 0 ; let i : i32 = 0 ; while i < n invariant s >= 0 ; { call s = add ( s , i ) ; i = i + 1 ; } input g ; assert s == 3 ; return s ; }"

// TestMoreFuelGoesOn: the events with less fuel are the first of those with more.
func TestMoreFuelGoesOn(t *testing.T) {
	p := mustProgram(t, growth)
	all := Run(p, "main", []int{3}, nil, []int{7}, api.MaxFuel)
	if all.End != api.EndDone || all.Result != 3 {
		t.Fatalf("10.5: %+v", all)
	}
	least := 0
	for fuel := range 60 {
		x := Run(p, "main", []int{3}, nil, []int{7}, fuel)
		if len(x.Events) < least || !reflect.DeepEqual(x.Events, all.Events[:len(x.Events)]) {
			t.Errorf("10.5: fuel %d: events %v", fuel, x.Events)
		}
		least = len(x.Events)
		if x.End == api.EndFuel && (x.Result != 0 || len(x.Globals) > 0 || fuel >= 25) || x.End != api.EndFuel && (fuel < 25 || !reflect.DeepEqual(x, all)) {
			t.Errorf("10.5: fuel %d: %+v", fuel, x)
		}
	}
}
