package show

import (
	"strings"
	"testing"

	"calliper/api"
)

func TestGlobals(t *testing.T) {
	for src, want := range map[string]string{
		"":                              "",
		" # nothing at all":             "",
		"global x:i32=3;":               "global x : i32 = 3 ;",
		"global x:i8;":                  "global x : i8 = 0 ;",
		"global x:u8=0;":                "global x : u8 = 0 ;",
		"global x:i16=0u;":              "global x : i16 = 0 ;",
		"global x:u16=-0;":              "global x : u16 = 0 ;",
		"global x:i32=-7;":              "global x : i32 = - 7 ;",
		"global x:u32=7u;":              "global x : u32 = 7 ;",
		"global x:i8=2147483647;":       "global x : i8 = 2147483647 ;",
		"global x:i8=2147483647u;":      "global x : i8 = 2147483647 ;",
		"global x:i8=2147483648u;":      "global x : i8 = 2147483648u ;",
		"global x:i8=4294967295u;":      "global x : i8 = 4294967295u ;",
		"global x:i8=-2147483647;":      "global x : i8 = - 2147483647 ;",
		"global x:i8=-2147483648u;":     "global x : i8 = - 2147483648u ;",
		"global x:i8=-4294967295u;":     "global x : i8 = - 4294967295u ;",
		"global x:i8[0];":               "global x : i8 = 0 ;",
		"global x:i8[0]=4;":             "global x : i8 = 4 ;",
		"global x:i8[1];":               "global x : i8 [ 1 ] ;",
		"global x:i8[16]=0;":            "global x : i8 [ 16 ] ;",
		"global x:i8[16]=5;":            "global x : i8 [ 16 ] = 5 ;",
		"global x:i8[16]=-5;":           "global x : i8 [ 16 ] = - 5 ;",
		"global x:i8[16u]=3000000000u;": "global x : i8 [ 16 ] = 3000000000u ;",
		"global x:i8[2147483647u];":     "global x : i8 [ 2147483647 ] ;",
		"global x:i8[2147483648u];":     "global x : i8 [ 2147483648u ] ;",
		"global x:i8[4294967295u]=1;":   "global x : i8 [ 4294967295u ] = 1 ;",
		"global b:i8;global a:i8;":      "global b : i8 = 0 ; global a : i8 = 0 ;",
		"global a:i8;global a:u8=1;":    "global a : i8 = 0 ; global a : u8 = 1 ;",
	} {
		wantText(t, src, want)
	}
}

func TestGlobalsAheadOfFunctions(t *testing.T) {
	wantText(t, "fn f(){}global x:i8;", "global x : i8 = 0 ; fn f ( ) { }")
	wantText(t, "fn g(){}global b:i8;fn f(){}global a:i8[2];fn h(){}", "global b : i8 = 0 ; global a : i8 [ 2 ] ; fn g ( ) { } fn f ( ) { } fn h ( ) { }")
}

func TestHeadsOfFunctions(t *testing.T) {
	for src, want := range map[string]string{
		"fn f(){}":                     "fn f ( ) { }",
		"fn f():u16{}":                 "fn f ( ) : u16 { }",
		"fn f(x:i8){}":                 "fn f ( x : i8 ) { }",
		"fn f(x:i8[0]){}":              "fn f ( x : i8 ) { }",
		"fn f(x:i8[3u]):i8{}":          "fn f ( x : i8 [ 3 ] ) : i8 { }",
		"fn f(x:i8[2147483648u]){}":    "fn f ( x : i8 [ 2147483648u ] ) { }",
		"fn f(x:i8,a:u32[2],y:i16){}":  "fn f ( x : i8 , a : u32 [ 2 ] , y : i16 ) { }",
		"fn f()assigns nothing;{}":     "fn f ( ) { }",
		"fn f()assigns b,a,b;{}":       "fn f ( ) assigns b , a , b ; { }",
		"fn f()assigns b;assigns a;{}": "fn f ( ) assigns b , a ; { }",
		"fn f()ensures x<1;assigns a;requires x<2;ensures x<3;assigns nothing;requires x<4;assigns b;{}": "fn f ( ) requires x < 2 ; requires x < 4 ; ensures x < 1 ; ensures x < 3 ; assigns a , b ; { }",
		"fn f():i8 ensures result<1;{return 0;}":                                                         "fn f ( ) : i8 ensures result < 1 ; { return 0 ; }",
		"fn f()requires x<1;{}fn g(){break;}":                                                            "fn f ( ) requires x < 1 ; { } fn g ( ) { break ; }",
	} {
		wantText(t, src, want)
	}
}

func TestStatements(t *testing.T) {
	for src, want := range map[string]string{
		"let x:i8=1;":                   "let x : i8 = 1 ;",
		"let x:u32=1u+y;":               "let x : u32 = 1u + y ;",
		"let x:u8[4];":                  "let x : u8 [ 4 ] ;",
		"let x:u8[0];":                  "let x : u8 [ 0 ] ;",
		"let x:u8[5u];":                 "let x : u8 [ 5 ] ;",
		"let x:u8[2147483647];":         "let x : u8 [ 2147483647 ] ;",
		"let x:u8[2147483648u];":        "let x : u8 [ 2147483648u ] ;",
		"x=y;":                          "x = y ;",
		"x=(y+1);":                      "x = y + 1 ;",
		"x[0]=y;":                       "x [ 0 ] = y ;",
		"x[(y-1)]=-y;":                  "x [ y - 1 ] = - y ;",
		"call f();":                     "call f ( ) ;",
		"call f(x);":                    "call f ( x ) ;",
		"call f((x),-1,2*3+4);":         "call f ( x , - 1 , ( 2 * 3 ) + 4 ) ;",
		"call x=f();":                   "call x = f ( ) ;",
		"call x=f(1,a[2]);":             "call x = f ( 1 , a [ 2 ] ) ;",
		"if x<1{}":                      "if x < 1 { }",
		"if x<1{}else{}":                "if x < 1 { }",
		"if [x<1]{break;}else{}":        "if x < 1 { break ; }",
		"if x<1{}else{break;}":          "if x < 1 { } else { break ; }",
		"if x<1{x=1;}else{x=2;y=3;}":    "if x < 1 { x = 1 ; } else { x = 2 ; y = 3 ; }",
		"while x<1{}":                   "while x < 1 { }",
		"while x<1 assigns nothing;{}":  "while x < 1 assigns nothing ; { }",
		"while x<1 assigns b,a;{}":      "while x < 1 assigns b , a ; { }",
		"while x<1 invariant [x<2];{}":  "while x < 1 invariant x < 2 ; { }",
		"while x<1 and y<2{continue;}":  "while x < 1 and y < 2 { continue ; }",
		"break;":                        "break ;",
		"continue;":                     "continue ;",
		"return;":                       "return ;",
		"return x;":                     "return x ;",
		"return (-1);":                  "return - 1 ;",
		"assert not x<1;":               "assert not x < 1 ;",
		"input x;":                      "input x ;",
		"while x<1{if x<2{break;}x=1;}": "while x < 1 { if x < 2 { break ; } x = 1 ; }",
		"while x<1 invariant x<2;invariant x<3 or x<4;assigns y;{x=1;y=2;}": "while x < 1 invariant x < 2 ; invariant x < 3 or x < 4 ; assigns y ; { x = 1 ; y = 2 ; }",
	} {
		wantText(t, "fn f(){"+src+"}", "fn f ( ) { "+want+" }")
		wantText(t, "fn f(){"+src+src+"}", "fn f ( ) { "+want+" "+want+" }")
		wantText(t, "fn f(){if x<1{"+src+"}else{"+src+"}}", "fn f ( ) { if x < 1 { "+want+" } else { "+want+" } }")
	}
}

// Operands as they are printed: those that stand without brackets wherever they stand, and those that do not.
func plainOperands() []string {
	return []string{"1", "0", "7u", "2147483647", "4294967295u", "x", "a [ 0 ]", "a [ x + 1 ]", "a [ - 1 ]", "old ( x )", "old ( x + 1 )", "result", "u8 ( x )", "i32 ( ~ x )"}
}

func otherOperands() []string {
	l := []string{"- x", "~ x", "- 1", "~ ( - x )"}
	for _, op := range operators() {
		l = append(l, "x "+op+" 1")
	}
	return l
}

func operators() []string { return strings.Fields("+ - * / % & | ^ << >>") }

func inRound(s string) string { return "( " + s + " )" }

// operands is each operand, and how it is printed as one.
func operands() (l [][2]string) {
	for _, s := range plainOperands() {
		l = append(l, [2]string{s, s})
	}
	for _, s := range otherOperands() {
		l = append(l, [2]string{s, inRound(s)})
	}
	return l
}

func wantExpr(t *testing.T, src, want string) {
	t.Helper()
	if got := Expr(mustExpr(t, src)); got != want {
		t.Errorf("4.2: Expr of %q: %q, not %q", src, got, want)
	}
	wantText(t, "fn f(){return "+src+";}", "fn f ( ) { return "+want+" ; }")
}

func TestWhichOperandsAreInBrackets(t *testing.T) {
	for _, a := range operands() {
		wantExpr(t, a[0], a[0])
		wantExpr(t, inRound(inRound(a[0])), a[0])
		wantExpr(t, "-"+inRound(a[0]), "- "+a[1])
		wantExpr(t, "~"+inRound(a[0]), "~ "+a[1])
		// What has brackets of its own gives none to what is within.
		wantExpr(t, "a["+inRound(a[0])+"]", "a [ "+a[0]+" ]")
		wantExpr(t, "old("+inRound(a[0])+")", "old ( "+a[0]+" )")
		for _, k := range strings.Fields("i8 u8 i16 u16 i32 u32") {
			wantExpr(t, k+"("+inRound(a[0])+")", k+" ( "+a[0]+" )")
		}
		for _, op := range operators() {
			for _, b := range operands() {
				wantExpr(t, inRound(a[0])+op+inRound(b[0]), a[1]+" "+op+" "+b[1])
			}
		}
	}
}

func TestChainsOfOperators(t *testing.T) {
	for src, want := range map[string]string{
		"1+2+3":        "( 1 + 2 ) + 3",
		"1+(2+3)":      "1 + ( 2 + 3 )",
		"1+2*3":        "1 + ( 2 * 3 )",
		"1*2+3":        "( 1 * 2 ) + 3",
		"1|2<<3+4*5":   "1 | ( 2 << ( 3 + ( 4 * 5 ) ) )",
		"1-2-3-4":      "( ( 1 - 2 ) - 3 ) - 4",
		"--x":          "- ( - x )",
		"~-~x":         "~ ( - ( ~ x ) )",
		"-x+y":         "( - x ) + y",
		"x- -y":        "x - ( - y )",
		"-(x+1)*2":     "( - ( x + 1 ) ) * 2",
		"-a[x]":        "- a [ x ]",
		"a[b[c[0]]]":   "a [ b [ c [ 0 ] ] ]",
		"u8(i8(x))":    "u8 ( i8 ( x ) )",
		"old(old(-x))": "old ( old ( - x ) )",
	} {
		wantExpr(t, src, want)
	}
}

func TestConditions(t *testing.T) {
	parts := [][2]string{
		{"x < 1", "x < 1"}, {"x + 1 == y * 2", "x + 1 == y * 2"}, {"- x != ~ y", "- x != ~ y"},
		{"x < 1 and y < 2", "[ x < 1 and y < 2 ]"}, {"x < 1 or y < 2", "[ x < 1 or y < 2 ]"}, {"not x < 1", "[ not x < 1 ]"}, {"not [ not x < 1 ]", "[ not [ not x < 1 ] ]"},
	}
	check := func(src, want string) {
		t.Helper()
		for _, c := range [][2]string{
			{"fn f()requires C;{}", "fn f ( ) requires C ; { }"}, {"fn f()ensures C;{}", "fn f ( ) ensures C ; { }"},
			{"fn f(){if C{}}", "fn f ( ) { if C { } }"}, {"fn f(){while C{}}", "fn f ( ) { while C { } }"},
			{"fn f(){while x<1 invariant C;{}}", "fn f ( ) { while x < 1 invariant C ; { } }"}, {"fn f(){assert C;}", "fn f ( ) { assert C ; }"},
		} {
			wantText(t, strings.ReplaceAll(c[0], "C", " "+src), strings.ReplaceAll(c[1], "C", want))
		}
	}
	for _, a := range parts {
		check(a[0], a[0])
		check("[["+a[0]+"]]", a[0])
		check("not["+a[0]+"]", "not "+a[1])
		for _, word := range []string{"and", "or"} {
			for _, b := range parts {
				check("["+a[0]+"]"+word+"["+b[0]+"]", a[1]+" "+word+" "+b[1])
			}
		}
	}
	for _, rel := range strings.Fields("== != < <= > >=") {
		check("x"+rel+"1", "x "+rel+" 1")
	}
	check("x<1 and x<2 and x<3", "[ x < 1 and x < 2 ] and x < 3")
	check("x<1 or x<2 and x<3 or x<4", "[ x < 1 or [ x < 2 and x < 3 ] ] or x < 4")
	check("not x<1 and x<2", "[ not x < 1 ] and x < 2")
	check("not not x<1", "not [ not x < 1 ]")
}

func TestARichProgram(t *testing.T) {
	wantText(t, rich, rich)
	wantText(t, squeezed(rich), rich)
	wantText(t, "\t"+strings.ReplaceAll(rich, " ", " # remark\r\n\t "), rich)
}

func TestTheNamesOfTypes(t *testing.T) {
	for i, k := range strings.Fields("i8 u8 i16 u16 i32 u32") {
		wantPrint(t, api.Program{Globals: []api.Global{{Name: "x", T: i + 1}}}, "global x : "+k+" = 0 ;")
		wantPrint(t, api.Program{Globals: []api.Global{{Name: "x", T: i + 1, Size: 2, Init: -3}}}, "global x : "+k+" [ 2 ] = - 3 ;")
		wantPrint(t, api.Program{Funcs: []api.Func{{Name: "f", T: i + 1, Params: []api.Param{{Name: "p", T: i + 1}}}}}, "fn f ( p : "+k+" ) : "+k+" { }")
	}
}
