package flow

import (
	"strings"
	"testing"
)

// undefined are expressions of x, which is 1, and p, an array of two; each has one kind of undefined behaviour, at its mark.
func undefined() [][2]string {
	return [][2]string{
		{"2147483647 @b + x", "over"}, {"@b - ( - 2147483647 - x )", "over"}, {"( - 2147483647 - x ) @b / ( x - 2 )", "over"}, {"- x @b << 2", "over"},
		{"x @b / ( x - 1 )", "div"}, {"2 + ( 7u @b % ( x - 1 ) )", "div"},
		{"x @b << ( x + 31 )", "shift"}, {"3u @b >> ( - x )", "shift"},
		{"@b p [ x + 1 ]", "index"}, {"i8 ( @b p [ - x ] ) + 3", "index"}, {"p [ @b p [ 2 ] ]", "index"},
	}
}

// TestUndefinedBehaviour: in each statement that has an expression or a condition.
func TestUndefinedBehaviour(t *testing.T) {
	for _, ub := range undefined() {
		for _, stmt := range []string{
			"let y : i8 = WHAT ;", "x = WHAT ;", "s = WHAT ;", "p [ WHAT ] = 1 ;", "p [ 1 ] = WHAT ;", "l [ 0 ] = WHAT ;",
			"call x = g ( WHAT , p , 1 ) ;", "call g ( 1 , p , WHAT ) ;", "call s = g ( x , p , WHAT ) ;",
			"if WHAT == 1 { }", "if 1 < WHAT { input x ; } else { input x ; }", "if x == 1 and WHAT == 1 { }", "if x == 2 or not [ WHAT == 1 ] { input x ; }",
			"while WHAT == 1 { input x ; }", "while 1 < WHAT { input x ; }", "while x == 1 and WHAT == 1 { }",
			"return WHAT ;", "if x == 1 { while x == 1 { return WHAT ; } }", "while x == 1 { if x == 2 { } else { let y : u32 [ 2 ] ; y [ 0 ] = WHAT ; } }",
		} {
			src := "global s : u32 ; global l : i8 [ 2 ] ; fn g ( y : i32 , a : u8 [ 2 ] , z : i32 ) : i8 { } fn f ( x : i32 ) : i8 @z ensures 1 > 2 ; assigns s , l ; { let p : u8 [ 2 ] ; " + strings.ReplaceAll(stmt, "WHAT", ub[0]) + " input x ; }"
			wantRows(t, "13.1", []row{{src, []int{1}, []int{1, 2, 3}, "call f 1; " + ub[1] + "@b; ub"}})
		}
	}
}

// TestUndefinedBehaviourInClaims counts as what does not hold.
func TestUndefinedBehaviourInClaims(t *testing.T) {
	for _, ub := range undefined() {
		if strings.Contains(ub[0], "p [") {
			// In a claim an index is a number that there is.
			continue
		}
		what := strings.ReplaceAll(ub[0], "@b ", "")
		wantRows(t, "13.1", []row{
			{"fn f ( x : i32 ) { @a assert " + what + " == 1 ; input x ; }", []int{1}, nil, "call f 1; assert@a 0; fail"},
			{"fn f ( x : i32 ) { @a assert not " + what + " == 1 ; input x ; }", []int{1}, nil, "call f 1; assert@a 0; fail"},
			{"fn f ( x : i32 ) { while x > 0 @a invariant " + what + " != 1 ; { input x ; } }", []int{1}, nil, "call f 1; invariant@a 0; fail"},
			{"fn f ( x : i32 ) @a requires " + what + " != 1 ; { input x ; }", []int{1}, nil, "call f 1; requires@a 0; fail"},
			{"fn f ( x : i32 ) @a ensures " + what + " != 1 ; { input x ; }", []int{1}, []int{5}, "call f 1; input 5; ensures@a 0; fail"},
		})
	}
}

func TestPlacesOfArrays(t *testing.T) {
	for size := 1; size <= 16; size++ {
		for _, at := range []int{-1 << 31, -17, -1, 0, size - 1, size, 16, 255, 1<<31 - 1} {
			src, marks := unmark(strings.ReplaceAll("global l : u8 [ SIZE ] ; fn g ( a : i8 [ SIZE ] , x : i32 ) assigns a ; { @c a [ x ] = 1 ; } fn f ( x : i32 , how : i8 ) assigns l ; { let p : i8 [ SIZE ] ; if how == 0 { @a p [ x ] = 1 ; } if how == 1 { @b l [ x ] = 1 ; } if how == 2 { call g ( p , x ) ; } }", "SIZE", listText([]int{size})))
			p := mustProgram(t, src)
			for how, mark := range []string{"@a", "@b", "@c"} {
				got := text(Run(p, "f", []int{at, how}, nil, nil, 99), marks)
				if is := strings.Contains(got, "index"+mark+"; ub"); is != (at < 0 || at >= size) || !is && !strings.Contains(got, "return f 0; done 0 ") {
					t.Errorf("13.1: place %d of %d, %s: %s", at, size, mark, got)
				}
			}
		}
	}
}

// TestOrder: what is reckoned first tells its undefined behaviour.
func TestOrder(t *testing.T) {
	wantRows(t, "13.1", []row{
		// SElem: X, then E, then the place.
		{"fn f ( x : i32 ) { let a : i8 [ 2 ] ; a [ 1 @b / x ] = 1 << 99 ; }", []int{0}, nil, "call f 0; div@b; ub"},
		{"fn f ( x : i32 ) { let a : i8 [ 2 ] ; a [ 1 + x ] = 1 @b << 99 ; }", []int{0}, nil, "call f 0; shift@b; ub"},
		{"fn f ( x : i32 ) { let a : i8 [ 2 ] ; a [ 5 + x ] = 1 @b << 99 ; }", []int{0}, nil, "call f 0; shift@b; ub"},
		{"fn f ( x : i32 ) { let a : i8 [ 2 ] ; @b a [ 5 + x ] = 1 ; }", []int{0}, nil, "call f 0; index@b; ub"},
		{"fn f ( x : i32 ) { let a : i8 [ 2 ] ; a [ @b a [ 2 ] ] = 1 ; }", []int{0}, nil, "call f 0; index@b; ub"},
		{"fn f ( x : i32 ) { let a : i8 [ 2 ] ; a [ 2 ] = @b a [ 3 ] ; }", []int{0}, nil, "call f 0; index@b; ub"},
		// An index is a number of its own type: it is not cut.
		{"fn f ( x : u32 ) { let a : i8 [ 2 ] ; @b a [ x ] = 1 ; }", []int{1<<32 - 1}, nil, "call f 4294967295; index@b; ub"},
		// SCall: the arguments in order, ahead of the call.
		{"fn g ( x : i32 , y : i32 ) { } fn f ( x : i32 ) { call g ( 1 @b / x , 1 << 99 ) ; }", []int{0}, nil, "call f 0; div@b; ub"},
		{"fn g ( x : i32 , y : i32 ) { } fn f ( x : i32 ) { call g ( x , 1 @b << 99 ) ; }", []int{0}, nil, "call f 0; shift@b; ub"},
		{"fn g ( x : i32 , a : i8 [ 2 ] , y : i32 ) { } fn f ( x : i32 ) { let a : i8 [ 2 ] ; call g ( 1 @b << 99 , a , 1 / x ) ; }", []int{0}, nil, "call f 0; shift@b; ub"},
		// A condition's B is not looked at, where A tells all.
		{"fn f ( x : i32 ) { if x == 0 or 1 / x == 1 { input x ; } }", []int{0}, nil, "call f 0; input 0; return f 0; done 0"},
		{"fn f ( x : i32 ) { if 1 @b / x == 1 or x == 0 { input x ; } }", []int{0}, nil, "call f 0; div@b; ub"},
		{"fn f ( x : i32 ) { while x != 0 and 1 / x == 1 { input x ; } }", []int{1}, []int{0}, "call f 1; input 0; return f 0; done 0"},
		// A return's own is told ahead of its ensures.
		{"fn f ( x : i32 ) : i32 @a ensures 1 > 2 ; { return 1 @b / x ; }", []int{0}, nil, "call f 0; div@b; ub"},
	})
}
