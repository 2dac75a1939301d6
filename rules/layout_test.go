package rules

import (
	"fmt"
	"testing"

	"calliper/api"
)

func TestLayouts(t *testing.T) {
	for _, c := range []struct{ src, vars, arrs string }{
		{"fn f ( ) { }", "", ""},
		{"fn f ( ) : u16 { }", "result:4[0]#0", ""},
		{"fn f ( x : i8 ) { }", "x:1[0]#0, old x:1[0]#1", ""},
		{"fn f ( a : i8 [ 3 ] ) { }", "", "a:1[3]#0"},
		{"global g : u32 ; fn f ( ) { }", "g:6[0]#0, old g:6[0]#1", ""},
		{"global h : u32 [ 5 ] ; fn f ( ) : i8 { }", "result:1[0]#0", "h:6[5]#0"},
		{"fn f ( ) { let x : u8 = 1 ; let a : i16 [ 2 ] ; let y : i32 = 1 ; let b : u16 [ 16 ] ; }", "x:2[0]#0, y:5[0]#1", "a:3[2]#0, b:4[16]#1"},
		// Parameters, globals, old ones, `let`s, the result; globals wherever they stand.
		{"global h : i8 [ 2 ] ; global g : i8 ; fn f ( a : u8 [ 3 ] , y : u8 , b : i16 [ 4 ] , x : i16 ) : u32 { let z : u16 = 1 ; let c : u16 [ 5 ] ; } global k : i32 ; global i : i32 [ 6 ] ;",
			"y:2[0]#0, x:3[0]#1, g:1[0]#2, k:5[0]#3, old y:2[0]#4, old x:3[0]#5, old g:1[0]#6, old k:5[0]#7, z:4[0]#8, result:6[0]#9", "a:2[3]#0, b:3[4]#1, h:1[2]#2, i:5[6]#3, c:4[5]#4"},
		// `let`s in the order in which they stand, inner ones among them.
		{"fn f ( ) : i8 { let p : i8 = 1 ; if 1 < 2 { let q : u8 = 1 ; while 1 < 2 { let r : i16 = 1 ; let a : i8 [ 1 ] ; } let s : u16 = 1 ; } else { let b : i8 [ 2 ] ; let t : i32 = 1 ; } while 1 < 2 { if 1 < 2 { } else { let u : u32 = 1 ; let c : i8 [ 3 ] ; } } let v : i8 = 1 ; let d : i8 [ 4 ] ; }",
			"p:1[0]#0, q:2[0]#1, r:3[0]#2, s:4[0]#3, t:5[0]#4, u:6[0]#5, v:1[0]#6, result:1[0]#7", "a:1[1]#0, b:1[2]#1, c:1[3]#2, d:1[4]#3"},
		// What has a size of 0 is a scalar, but a `let` that is an array; sizes that may not be stand there.
		{"global g : i8 [ 0 ] ; global h : i8 [ 17 ] ; fn f ( x : i8 [ 0 ] , a : u8 [ 99 ] ) { let z : i8 [ 0 ] ; }", "x:1[0]#0, g:1[0]#1, old x:1[0]#2, old g:1[0]#3", "a:2[99]#0, h:1[17]#1, z:1[0]#2"},
		// Names that are there twice stand there twice.
		{"global x : i8 ; fn f ( x : u8 , x : i16 [ 2 ] ) { let x : u16 = 1 ; let x : i32 [ 3 ] ; }", "x:2[0]#0, x:1[0]#1, old x:2[0]#2, old x:1[0]#3, x:4[0]#4", "x:3[2]#0, x:5[3]#1"},
		// Other functions do not count.
		{"fn f ( x : i8 ) { let y : i8 = 1 ; } fn g ( z : i8 , c : i8 [ 2 ] ) : i8 { let w : i8 = 1 ; let d : i8 [ 2 ] ; }", "x:1[0]#0, old x:1[0]#1, y:1[0]#2", ""},
	} {
		p := mustProgram(t, c.src)
		y := Layout(p, p.Funcs[0])
		if got := bindsText(y.Vars); got != c.vars {
			t.Errorf("5.5: Vars of %s\n got %s\nwant %s", c.src, got, c.vars)
		}
		if got := bindsText(y.Arrs); got != c.arrs {
			t.Errorf("5.5: Arrs of %s\n got %s\nwant %s", c.src, got, c.arrs)
		}
	}
}

func TestLayoutOfAFunctionOfNoProgram(t *testing.T) {
	p := mustProgram(t, "global g : i8 ; fn f ( ) { }")
	q := mustProgram(t, "fn h ( x : u8 ) : u8 { }")
	if got := bindsText(Layout(p, q.Funcs[0]).Vars); got != "x:2[0]#0, g:1[0]#1, old x:2[0]#2, old g:1[0]#3, result:2[0]#4" {
		t.Error("5.5:", got)
	}
	if y := Layout(api.Program{}, api.Func{}); len(y.Vars) != 0 || len(y.Arrs) != 0 {
		t.Error("5.5: of nothing", y)
	}
}

// Layouts are not bounded by what Faults asks.
func TestLayoutOfTooMany(t *testing.T) {
	for _, n := range []int{api.MaxVars - 1, api.MaxVars, api.MaxVars + 1, 200} {
		p := mustProgram(t, "fn f ( ) : i8 { "+scalars(0, n)+"}")
		y := Layout(p, p.Funcs[0])
		if len(y.Vars) != n+1 || y.Vars[n] != (api.Bind{Name: "result", T: api.I8, Id: n}) {
			t.Error("5.5: of", n, y.Vars)
		}
		if many := len(Faults(p)) > 0; many != (n+1 > api.MaxVars) {
			t.Error("5.1: FMany of", n+1, fmt.Sprint(Faults(p)))
		}
	}
}
