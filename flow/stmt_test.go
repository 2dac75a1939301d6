package flow

import (
	"fmt"
	"strings"
	"testing"

	"calliper/api"
)

// wrapped are numbers, and what they are as one of each type, from I8 on.
func wrapped() [][7]int {
	return [][7]int{
		{0, 0, 0, 0, 0, 0, 0}, {-1, -1, 255, -1, 65535, -1, 1<<32 - 1}, {127, 127, 127, 127, 127, 127, 127}, {128, -128, 128, 128, 128, 128, 128}, {300, 44, 44, 300, 300, 300, 300},
		{32768, 0, 0, -32768, 32768, 32768, 32768}, {-32769, -1, 255, 32767, 32767, -32769, 1<<32 - 32769}, {1<<31 - 1, -1, 255, -1, 65535, 1<<31 - 1, 1<<31 - 1},
	}
}

// TestWrittenIsWrapped: into the type of what is written, wherever it stands, by each statement that writes.
func TestWrittenIsWrapped(t *testing.T) {
	for ty := api.I8; ty <= api.U32; ty++ {
		for _, row := range wrapped() {
			for _, src := range []string{
				"fn f ( v : i32 ) : u32 { let x : TYPE = v ; return x ; }",
				"fn f ( v : i32 ) : u32 { let x : TYPE = 9 ; x = v ; return x ; }",
				"global x : TYPE = 9 ; fn f ( v : i32 ) : u32 assigns x ; { x = v ; return x ; }",
				"fn f ( v : i32 ) : u32 { let x : TYPE [ 3 ] ; x [ 1 ] = v ; return u32 ( x [ 1 ] ) + x [ 0 ] + x [ 2 ] ; }",
				"global x : TYPE [ 2 ] ; fn f ( v : i32 ) : u32 assigns x ; { x [ 1 ] = v ; return u32 ( x [ 1 ] ) + x [ 0 ] ; }",
				"fn g ( v : i32 ) : i32 { return v ; } fn f ( v : i32 ) : u32 { let x : TYPE = 9 ; call x = g ( v ) ; return x ; }",
				"fn g ( v : i32 ) : TYPE { return v ; } fn f ( v : i32 ) : u32 { let x : i32 = 9 ; call x = g ( v ) ; return x ; }",
				"fn g ( x : TYPE ) : u32 { return x ; } fn f ( v : i32 ) : u32 { let x : u32 = 9 ; call x = g ( v ) ; return x ; }",
				"fn g ( x : i32 , y : TYPE ) : u32 { return y ; } fn f ( v : i32 ) : u32 { let x : u32 = 9 ; call x = g ( 5 , v ) ; return x ; }",
			} {
				p := mustProgram(t, strings.ReplaceAll(src, "TYPE", typeNames[ty]))
				x := Run(p, "f", []int{row[0]}, nil, nil, api.MaxFuel)
				// As an u32 the result tells all that there are apart.
				if want := row[ty] & (1<<32 - 1); x.End != api.EndDone || x.Result != want {
					t.Errorf("13.1: %s of %s and %d: %+v, want %d", src, typeNames[ty], row[0], x, want)
				}
			}
		}
	}
}

func TestInputs(t *testing.T) {
	for ty := api.I8; ty <= api.U32; ty++ {
		for _, row := range append(wrapped(), [7]int{1<<40 + 5, 5, 5, 5, 5, 5, 5}, [7]int{-1 << 63, 0, 0, 0, 0, 0, 0}) {
			p := mustProgram(t, strings.ReplaceAll("fn f ( ) : u32 { let x : TYPE = 9 ; input x ; return x ; }", "TYPE", typeNames[ty]))
			x := Run(p, "f", nil, nil, []int{row[0]}, api.MaxFuel)
			want := fmt.Sprint("call f; input ", row[ty], "; return f ", row[ty]&(1<<32-1), "; done ", row[ty]&(1<<32-1))
			if got := text(x, nil); got != want {
				t.Errorf("13.1: input %d as %s: %s, want %s", row[0], typeNames[ty], got, want)
			}
		}
	}
	const three = "global s : i16 ; fn f ( x : i8 ) : i32 assigns s ; { let y : u8 = 7 ; input x ; input s ; input y ; return y - x ; }"
	wantRows(t, "13.1", []row{
		{three, []int{9}, []int{200, -1, -1}, "call f 9; input -56; input -1; input 255; return f 311; done 311 i16:-1"},
		// More than are taken, and fewer.
		{three, []int{9}, []int{1, 2, 3, 4, 5}, "call f 9; input 1; input 2; input 3; return f 2; done 2 i16:2"},
		{three, []int{9}, []int{1, 2}, "call f 9; input 1; input 2; input 0; return f -1; done -1 i16:2"},
		{three, []int{9}, []int{1}, "call f 9; input 1; input 0; input 0; return f -1; done -1 i16:0"},
		{three, []int{9}, []int{}, "call f 9; input 0; input 0; input 0; return f 0; done 0 i16:0"},
		{three, []int{9}, nil, "call f 9; input 0; input 0; input 0; return f 0; done 0 i16:0"},
		// They go on from call to call.
		{"fn g ( ) : i8 { let x : i8 = 0 ; input x ; return x ; } fn f ( ) : i32 { let a : i32 = 0 ; let b : i32 = 0 ; call a = g ( ) ; input b ; call b = g ( ) ; return a * 10 + b ; }", nil, []int{1, 2, 3}, "call f; call g; input 1; return g 1; input 2; call g; input 3; return g 3; return f 13; done 13"},
	})
}

func TestPlainStatements(t *testing.T) {
	wantRows(t, "13.1", []row{
		// A name of a let stands for its own value, wherever the others are.
		{"fn f ( x : i32 ) : i32 { let a : i32 = x + 1 ; let b : i32 = a * 2 ; a = b - x ; x = a + b ; return x ; }", []int{3}, nil, "call f 3; return f 13; done 13"},
		{"fn f ( ) : i32 { if 1 < 2 { let a : i32 = 5 ; } let b : i32 = 6 ; if 1 < 2 { let c : i32 = b + 1 ; b = c ; } return b ; }", nil, nil, "call f; return f 7; done 7"},
		// Arrays are noughts at their statement, each time.
		{"fn f ( ) : i32 { let s : i32 = 0 ; let i : i32 = 0 ; while i < 4 { i = i + 1 ; let a : i32 [ 16 ] ; a [ i ] = a [ i - 1 ] + i ; s = s + a [ i ] + a [ 0 ] + a [ 15 ] ; } return s ; }", nil, nil, "call f; return f 10; done 10"},
		{"fn f ( ) : i32 { let a : i32 [ 2 ] ; let b : i32 [ 2 ] ; a [ 0 ] = 1 ; b [ 1 ] = 2 ; a [ 1 ] = 3 ; return a [ 0 ] * 1000 + a [ 1 ] * 100 + b [ 0 ] * 10 + b [ 1 ] ; }", nil, nil, "call f; return f 1302; done 1302"},
		// X is reckoned ahead of what is written.
		{"fn f ( ) : i32 { let a : i32 [ 3 ] ; a [ 0 ] = 1 ; a [ a [ 0 ] ] = 2 ; a [ a [ a [ 0 ] ] ] = a [ 0 ] + a [ 1 ] ; return a [ 2 ] * 100 + a [ 1 ] * 10 + a [ 0 ] ; }", nil, nil, "call f; return f 321; done 321"},
		// A call's result goes to Name behind the call, or nowhere.
		{"global s : i32 ; fn g ( ) : i32 assigns s ; { s = 5 ; return s + 1 ; } fn f ( ) : i32 assigns s ; { call g ( ) ; let t : i32 = s ; call s = g ( ) ; return t * 10 + s ; }", nil, nil, "call f; call g; return g 6; call g; return g 6; return f 56; done 56 i32:6"},
		{"fn g ( x : i32 ) : i32 { x = x + 1 ; return x ; } fn f ( x : i32 ) : i32 { call x = g ( x ) ; call x = g ( x ) ; call g ( x ) ; return x ; }", []int{5}, nil, "call f 5; call g 5; return g 6; call g 6; return g 7; call g 7; return g 8; return f 7; done 7"},
		// If, both ways, and without an else.
		{"fn f ( x : i32 ) : i32 { if x > 0 { return 1 ; } else { return 2 ; } }", []int{1}, nil, "call f 1; return f 1; done 1"},
		{"fn f ( x : i32 ) : i32 { if x > 0 { return 1 ; } else { return 2 ; } }", []int{0}, nil, "call f 0; return f 2; done 2"},
		{"fn f ( x : i32 ) : i32 { if x > 0 { x = 7 ; } return x ; }", []int{1}, nil, "call f 1; return f 7; done 7"},
		{"fn f ( x : i32 ) : i32 { if x > 0 { x = 7 ; } return x ; }", []int{0}, nil, "call f 0; return f 0; done 0"},
		{"fn f ( x : i32 ) : i32 { if x > 0 { } else { x = 7 ; } return x ; }", []int{0}, nil, "call f 0; return f 7; done 7"},
		{"fn f ( x : i32 ) : i32 { if x > 0 { if x > 1 { x = 20 ; } else { x = 10 ; } } else { if x < 0 { x = - 10 ; } } return x ; }", []int{1}, nil, "call f 1; return f 10; done 10"},
		{"fn f ( x : i32 ) : i32 { if x > 0 { if x > 1 { x = 20 ; } else { x = 10 ; } } else { if x < 0 { x = - 10 ; } } return x ; }", []int{-7}, nil, "call f -7; return f -10; done -10"},
		// Asserts.
		{"fn f ( x : i32 ) { @a assert x > 0 ; @b assert x > 1 ; @c assert x < 9 and not x == 2 ; }", []int{3}, nil, "call f 3; assert@a 1; assert@b 1; assert@c 1; return f 0; done 0"},
		{"fn f ( x : i32 ) { @a assert x > 0 ; @b assert x > 1 ; @c assert x < 9 and not x == 2 ; }", []int{2}, nil, "call f 2; assert@a 1; assert@b 1; assert@c 0; fail"},
		{"fn f ( x : i32 ) { @a assert x > 0 ; @b assert x > 1 ; @c assert x < 9 and not x == 2 ; }", []int{1}, nil, "call f 1; assert@a 1; assert@b 0; fail"},
		{"global l : i8 [ 2 ] ; fn f ( ) assigns l ; { let a : u8 [ 2 ] ; let x : i8 = 3 ; a [ 1 ] = x ; l [ 0 ] = x ; @a assert a [ 1 ] == x and l [ 0 ] == x and a [ 0 ] + l [ 1 ] == 0 ; @b assert a [ 1 ] != 3 ; }", nil, nil, "call f; assert@a 1; assert@b 0; fail"},
	})
}

func TestLoops(t *testing.T) {
	wantRows(t, "13.1", []row{
		// Invariants are looked at once more than the body runs, in order, ahead of the condition.
		{"fn f ( x : i32 ) { while x > 0 @a invariant x >= 0 ; @b invariant x < 9 ; { x = x - 1 ; } }", []int{2}, nil, "call f 2; invariant@a 1; invariant@b 1; invariant@a 1; invariant@b 1; invariant@a 1; invariant@b 1; return f 0; done 0"},
		{"fn f ( x : i32 ) { while x > 0 @a invariant x >= 0 ; @b invariant x < 9 ; { x = x - 1 ; } }", []int{0}, nil, "call f 0; invariant@a 1; invariant@b 1; return f 0; done 0"},
		{"fn f ( x : i32 ) { while x > 0 @a invariant x >= 0 ; @b invariant x < 9 ; { x = x - 1 ; } }", []int{-1}, nil, "call f -1; invariant@a 0; fail"},
		{"fn f ( x : i32 ) { while x > 0 @a invariant x >= 0 ; @b invariant x < 9 ; { x = x - 1 ; } }", []int{9}, nil, "call f 9; invariant@a 1; invariant@b 0; fail"},
		{"fn f ( x : i32 ) { while x > 0 @a invariant x != 2 ; @b invariant x < 9 ; { x = x - 1 ; } }", []int{4}, nil, "call f 4; invariant@a 1; invariant@b 1; invariant@a 1; invariant@b 1; invariant@a 0; fail"},
		{"fn f ( x : i32 ) { while 1 / x > 5 @a invariant x > 0 ; { } }", []int{0}, nil, "call f 0; invariant@a 0; fail"},
		{"fn f ( x : i32 ) { while 1 @b / x > 5 @a invariant x == 0 ; { } }", []int{0}, nil, "call f 0; invariant@a 1; div@b; ub"},
		// Names of a loop have no say in a run.
		{"fn f ( x : i32 ) : i32 { let y : i32 = 0 ; while x > 0 assigns x , y ; { x = x - 1 ; y = y + x ; } return y ; }", []int{4}, nil, "call f 4; return f 6; done 6"},
		{"fn f ( x : i32 ) : i32 { let y : i32 = 0 ; while x > 0 assigns nothing ; { x = x - 1 ; y = y + x ; } return y ; }", []int{4}, nil, "call f 4; return f 6; done 6"},
		// Break and continue, out of an if too; with invariants at the next look alone.
		{"fn f ( ) : i32 { let s : i32 = 0 ; let i : i32 = 0 ; while i < 9 @a invariant i < 9 ; { i = i + 1 ; if i == 2 { continue ; } if i == 4 { break ; } s = s + i ; } return s * 10 + i ; }", nil, nil, "call f; invariant@a 1; invariant@a 1; invariant@a 1; invariant@a 1; return f 44; done 44"},
		{"fn f ( x : i32 ) { while 1 < 2 { break ; input x ; } input x ; }", []int{0}, []int{5}, "call f 0; input 5; return f 0; done 0"},
		{"fn f ( x : i32 ) { while x < 3 { x = x + 1 ; continue ; input x ; } input x ; }", []int{0}, []int{5}, "call f 0; input 5; return f 0; done 0"},
		// They are of the innermost loop.
		{"fn f ( ) : i32 { let s : i32 = 0 ; let i : i32 = 0 ; while i < 3 { i = i + 1 ; let j : i32 = 0 ; while 1 < 2 { j = j + 1 ; if j == 2 { if i > 0 { continue ; } } if j > 3 { if i > 0 { if i > 0 { break ; } } } s = s + j ; } s = s + 100 ; } return s ; }", nil, nil, "call f; return f 312; done 312"},
		{"fn f ( ) : i32 { let s : i32 = 0 ; let i : i32 = 0 ; while i < 3 { i = i + 1 ; while 1 < 2 { break ; } if i == 2 { continue ; } while 1 < 2 { if i > 0 { break ; } } s = s + i ; } return s ; }", nil, nil, "call f; return f 4; done 4"},
		// A return leaves all of them, and nothing behind it is looked at.
		{"fn f ( ) : i32 { while 1 < 2 { while 1 < 2 { if 1 < 2 { return 7 ; } else { } } } return 8 ; }", nil, nil, "call f; return f 7; done 7"},
		{"fn f ( x : i32 ) : i32 { while x < 9 @a invariant x < 3 ; { if x == 2 { return x ; } x = x + 1 ; } return 8 ; }", []int{1}, nil, "call f 1; invariant@a 1; invariant@a 1; return f 2; done 2"},
		{"fn g ( ) { while 1 < 2 { return ; } } fn f ( x : i32 ) : i32 { while x < 3 { call g ( ) ; x = x + 1 ; } return x ; }", []int{1}, nil, "call f 1; call g; return g 0; call g; return g 0; return f 3; done 3"},
		{"fn f ( x : i32 ) : i32 { if x > 0 { return x + 1 ; } else { return x - 1 ; } return 8 ; }", []int{-5}, nil, "call f -5; return f -6; done -6"},
		// Lets of a loop's body begin anew at each look, however it went on.
		{"fn f ( ) : i32 { let i : i32 = 0 ; let s : i32 = 0 ; while i < 4 { let x : i32 = i ; let a : i8 [ 2 ] ; i = i + 1 ; if x == 1 { let y : i32 = 5 ; a [ 0 ] = y ; continue ; } let z : i32 = 2 ; a [ 1 ] = a [ 1 ] + z ; s = s * 10 + a [ 0 ] + a [ 1 ] + x ; } return s ; }", nil, nil, "call f; return f 245; done 245"},
	})
}
