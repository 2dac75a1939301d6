package parse

import (
	"fmt"
	"strings"
	"testing"

	"calliper/api"
	"calliper/lex"
)

func wantProgramError(t *testing.T, s string, e api.Errno, at int) {
	t.Helper()
	p, gotE, gotAt := Program(s)
	if gotE != e || gotAt != at || p.Globals != nil || p.Funcs != nil {
		t.Errorf("3.1: Program(%.120q): error %d at %d beside %.100s, not error %d at %d", s, gotE, gotAt, fmt.Sprint(p), e, at)
	}
}

func wantCondError(t *testing.T, s string, e api.Errno, at int) {
	t.Helper()
	c, gotE, gotAt := Cond(s)
	if gotE != e || gotAt != at || c != nil {
		t.Errorf("3.1: Cond(%.120q): error %d at %d beside %.100s, not error %d at %d", s, gotE, gotAt, fmt.Sprint(c), e, at)
	}
}

// marked takes the `@` out of a text: it stands ahead of the token that is wrong.
func marked(t *testing.T, s string) (string, int) {
	t.Helper()
	at := strings.Index(s, "@")
	if at < 0 || strings.Count(s, "@") != 1 {
		t.Fatalf("a text with no mark, or with several: %q", s)
	}
	return strings.Replace(s, "@", "", 1), at
}

func TestTokensThatCannotStandInAProgram(t *testing.T) {
	for _, m := range []string{
		// At the beginning.
		"@x", "@;", "@{}", "@1", "@i32", "@let x:i8=1;", "@requires x<1;", "@nothing", "@(",
		// Globals.
		"global@", "global @;", "global @i32:i32;", "global @fn : i32;", "global @1:i32;", "global x@", "global x @i32;", "global x @;", "global x@=1;",
		"global x:@", "global x:@;", "global x:@y;", "global x:@int;", "global x:i32@", "global x:i32 @1;", "global x:i32 @global y:i8;",
		"global x:i32[@", "global x:i32[@];", "global x:i32[@n];", "global x:i32[@-1];", "global x:i32[1@", "global x:i32[1@;", "global x:i32[1@+1];", "global x:i32[1]@[1];",
		"global x:i32=@", "global x:i32=@;", "global x:i32=@y;", "global x:i32=@(1);", "global x:i32=-@", "global x:i32=-@-1;", "global x:i32=@~1;", "global x:i32=-@x;",
		"global x:i32=1@", "global x:i32=1@+1;", "global x:i32=1@[1];", "global x:i32@==1;", "global x:i32=1;@;", "global x:i32;@x", "global x:i32@,y:i32;",
		// Heads of functions.
		"fn@", "fn @(){}", "fn @if(){}", "fn f@", "fn f@{}", "fn f@;", "fn f(@", "fn f(@,){}", "fn f(@1){}", "fn f(@i32 x){}", "fn f(x@", "fn f(x@){}", "fn f(x@,y:i8){}", "fn f(x:@){}", "fn f(x:@y){}",
		"fn f(x:i8@", "fn f(x:i8@ y:i8){}", "fn f(x:i8,@){}", "fn f(x:i8,@,y:i8){}", "fn f(x:i8@;y:i8){}", "fn f(x:i8[@]){}", "fn f(x:i8[@n]){}", "fn f(x:i8[1@){}", "fn f(x:i8@=1){}",
		"fn f()@", "fn f()@;", "fn f()@x", "fn f()@invariant x<1;{}", "fn f()@fn g(){}", "fn f()@i8{}", "fn f():@{}", "fn f():@x{}", "fn f():i8@", "fn f():i8@[1]{}", "fn f():i8@:i8{}", "fn f()requires x<1;@:i8{}",
		// Clauses.
		"fn f()requires@", "fn f()requires @;{}", "fn f()requires @{}", "fn f()requires x@;{}", "fn f()requires x<1@{}", "fn f()requires x<1@,x<1;{}", "fn f()ensures x<1;@;{}", "fn f()ensures@", "fn f()ensures x<@;{}",
		"fn f()assigns@", "fn f()assigns @;{}", "fn f()assigns @{}", "fn f()assigns @1;{}", "fn f()assigns @,x;{}", "fn f()assigns x,@;{}", "fn f()assigns x@ y;{}", "fn f()assigns x@{}", "fn f()assigns x@[1];{}",
		"fn f()assigns x,@nothing;{}", "fn f()assigns nothing@,x;{}", "fn f()assigns nothing@{}", "fn f()assigns x;@", "fn f()assigns @result;{}",
		// Blocks and what is behind them.
		"fn f(){@", "fn f(){@;}", "fn f(){@{}}", "fn f(){@1;}", "fn f(){@)", "fn f(){@fn g(){}}", "fn f(){@global x:i8;}", "fn f(){@else{}}", "fn f(){@assigns x;}", "fn f(){@invariant x<1;}", "fn f(){@result=1;}", "fn f(){@i8=1;}", "fn f(){@-x=1;}", "fn f(){@(x)=1;}",
		"fn f(){}@;", "fn f(){}@}", "fn f(){}@x=1;", "fn f(){}@{}", "fn f(){break;@", "fn f(){if x<1{}@",
		// Let.
		"fn f(){let@", "fn f(){let @;}", "fn f(){let @i8:i8=1;}", "fn f(){let x@=1;}", "fn f(){let x:@=1;}", "fn f(){let x:@y=1;}", "fn f(){let x:i8@;}", "fn f(){let x:i8@}", "fn f(){let x:i8=@;}", "fn f(){let x:i8=1@}", "fn f(){let x:i8=1@,y=1;}",
		"fn f(){let x:i8[@];}", "fn f(){let x:i8[@n];}", "fn f(){let x:i8[@-1];}", "fn f(){let x:i8[1@+1];}", "fn f(){let x:i8[1]@=1;}", "fn f(){let x:i8[1]@}", "fn f(){let x:i8=1@[1];}", "fn f(){let x:i8=1@<2;}",
		// What is set.
		"fn f(){x@", "fn f(){x@;}", "fn f(){x@+1;}", "fn f(){x@==1;}", "fn f(){x@();}", "fn f(){x@:i8=1;}", "fn f(){x=@;}", "fn f(){x= @=1;}", "fn f(){x=1@}", "fn f(){x=1@=2;}", "fn f(){x=1@ 2;}", "fn f(){x=y@ z;}", "fn f(){x=f@(1);}", "fn f(){x@,y=1;}",
		"fn f(){x[@]=1;}", "fn f(){x[1@=1;}", "fn f(){x[1]@;}", "fn f(){x[1]@[2]=1;}", "fn f(){x[1@,2]=1;}", "fn f(){x[1@<2]=1;}", "fn f(){x[1]=@;}", "fn f(){x[1]=y[1]@[2];}",
		// Calls.
		"fn f(){call@", "fn f(){call @;}", "fn f(){call @(1);}", "fn f(){call @1();}", "fn f(){call f@;}", "fn f(){call f(@", "fn f(){call f(@,);}", "fn f(){call f(1@ 2);}", "fn f(){call f(1,@);}", "fn f(){call f(1,@,2);}", "fn f(){call f(1@;}", "fn f(){call f(1@<2);}", "fn f(){call f()@}", "fn f(){call f()@+1;}",
		"fn f(){call x=@;}", "fn f(){call x=@(1);}", "fn f(){call x=@1;}", "fn f(){call x=f@;}", "fn f(){call x=y@=f();}", "fn f(){call x@[1]=f();}", "fn f(){call x@==f();}",
		// Branches and loops.
		"fn f(){if@", "fn f(){if @{}}", "fn f(){if x@{}}", "fn f(){if (x@<1){}}", "fn f(){if x<1@;}", "fn f(){if x<1@ x=1;}", "fn f(){if x<1{}@;}", "fn f(){if x<1{}else@ if x<1{}}", "fn f(){if x<1{}else@;}", "fn f(){if x<1{}else{}@else{}}", "fn f(){if x<1@ invariant x<1;{}}", "fn f(){if x<1@ assigns x;{}}",
		"fn f(){while@", "fn f(){while @{}}", "fn f(){while x<1@;{}}", "fn f(){while x<1@ break;}", "fn f(){while x<1 invariant@;{}}", "fn f(){while x<1 invariant x<1@{}}", "fn f(){while x<1 invariant x@;{}}", "fn f(){while x<1@ requires x<1;{}}", "fn f(){while x<1{}@else{}}",
		"fn f(){while x<1 assigns@;{}}", "fn f(){while x<1 assigns x@{}}", "fn f(){while x<1 assigns x;@assigns y;{}}", "fn f(){while x<1 assigns x;@invariant x<1;{}}", "fn f(){while x<1 assigns nothing@,x;{}}", "fn f(){while x<1 assigns x,@nothing;{}}", "fn f(){while x<1 assigns nothing;@}",
		// The other statements.
		"fn f(){break@}", "fn f(){break@ 1;}", "fn f(){continue@}", "fn f(){continue@ x;}", "fn f(){return@}", "fn f(){return 1@}", "fn f(){return 1@,2;}", "fn f(){return x@<1;}", "fn f(){return;@;}",
		"fn f(){assert@;}", "fn f(){assert 1@;}", "fn f(){assert x<1@}", "fn f(){assert x@=1;}", "fn f(){assert x<1@<1;}", "fn f(){input@;}", "fn f(){input @1;}", "fn f(){input x@}", "fn f(){input x@[1];}", "fn f(){input x@=1;}",
	} {
		s, at := marked(t, m)
		// The token that is wrong is the one behind the mark: blanks part them.
		wantProgramError(t, s, api.ErrSyntax, at+len(s[at:])-len(strings.TrimLeft(s[at:], " ")))
	}
}

func TestTokensThatCannotStandInACondition(t *testing.T) {
	for _, m := range []string{
		"@", "@;", "@}", "@)", "@]", "@==1", "@<", "@and x<1", "@or x<1", "@let", "@nothing", "@{", "@=", "@:", "@,", "@+x<1", "@*x<1", "@fn",
		"x@", "1@", "x@;", "x@=1", "x@ y", "x@ 1", "1@ x", "1@(x)", "x@(1)", "x@ and y<1", "x@ or y<1", "x@]", "x@)", "x @not", "(x@<1)", "(x@", "(@)", "(@", "((x)@", "(x@ y)",
		"x<@", "x<@;", "x< @<1", "x<@and", "x<@not", "x<@[1", "x<@)", "x<y@<z", "x<y@==z", "x<y@ z", "x<y@;", "x<y@=", "x<y@)", "x<y@]", "x<y@}", "x<y@,", "x<y@ not x<y", "x<1@[1]", "x<1@(1)",
		"x+@", "x+@<1", "x+@*y<1", "x+@;", "x*@/y<1", "x<<@<1", "x&@&y<1", "x-@", "-@", "~@", "-@<1", "-@+x<1", "~@not x<1", "x-~@",
		"a[@", "a[@]<1", "a[x@", "a[x@<1]<1", "a[x]@[y]<1", "a[x@)<1", "a[x@,", "a[@[x]]<1", "a[x]@(1)<1",
		"old@", "old@ x<1", "old@[x]<1", "old(@", "old(@)<1", "old(x@", "old(x@<1)", "old(x)@(y)<1", "old(x@,y)<1", "result@", "result@(1)<1", "result@[1]<1", "result@ x",
		"i8@", "i8@ x<1", "i8(@)<1", "i8(x@", "i8(x@<1)", "u32@<1", "i8(x@,y)<1", "i8@[x]<1", "@while",
		"not@", "not @and x<1", "not x@", "not x@ and x<1", "not @;", "not [x<1@", "[@", "[@]", "[x@]", "[x<1@", "[x<1@)", "[x<1]@<1", "[x<1]@[x<1]", "[x<1]@ x<1", "[x<1]@+1<2", "[x<1]@;", "[x<1]@]", "[[x<1]@", "[x<1 and@]", "[x<1 or@]",
		"x<1 and@", "x<1 and @and x<1", "x<1 and @or x<1", "x<1 or@", "x<1 or @or x<1", "x<1 or @and x<1", "x<1 and x@", "x<1 or x@ or x<1", "x<1 and not@", "x<1 @not x<1", "x<1 @fn", "x<1 @else",
	} {
		s, at := marked(t, m)
		wantCondError(t, s, api.ErrSyntax, at+len(s[at:])-len(strings.TrimLeft(s[at:], " ")))
	}
}

func TestEndOfTheTextIsWhereItsLastByteIs(t *testing.T) {
	// Blanks and remarks at the end belong to the text: its end is behind them.
	wantProgramError(t, "global  \n", api.ErrSyntax, 9)
	wantProgramError(t, "fn f ( ) { # }", api.ErrSyntax, 14)
	wantCondError(t, "", api.ErrSyntax, 0)
	wantCondError(t, "   ", api.ErrSyntax, 3)
	wantCondError(t, "# x<1", api.ErrSyntax, 5)
	wantCondError(t, "x < # 1\n ", api.ErrSyntax, 9)
	wantProgramError(t, "fn"+strings.Repeat(" ", api.MaxText-2), api.ErrSyntax, api.MaxText)
}

func TestLayerTwosErrorsCountFirst(t *testing.T) {
	for _, s := range []string{
		"$", "fn f ( ) $", "global x : i32 = 01 ;", "global x : i32 = 99999999999 ;", "x $", "; ; A", "global B : i32 ;",
		"fn f ( ) { x ! 1 ; }", "fn f() { } 5a", "x " + strings.Repeat("y", api.MaxName+1), "global x : i32 = 2147483648 ;",
		strings.Repeat("( ", 40) + "$", "fn fn fn é", strings.Repeat(" ", api.MaxText+1), strings.Repeat("(", api.MaxText+1), "fn" + strings.Repeat("$", api.MaxText),
	} {
		_, e, at := lex.Lex(s)
		if e == api.OK {
			t.Fatalf("layer 2 takes %q", s)
		}
		wantProgramError(t, s, e, at)
		wantCondError(t, s, e, at)
	}
	wantProgramError(t, "x $", api.ErrWord, 2)
	wantCondError(t, ") 01", api.ErrWord, 2)
	wantCondError(t, "x < 5000000000", api.ErrLong, 4)
}

func TestTheFirstWrongTokenCounts(t *testing.T) {
	wantProgramError(t, "global x i32 ; global y i32 ;", api.ErrSyntax, 9)
	wantProgramError(t, "global x : i32 ; global y i32 ; fn", api.ErrSyntax, 26)
	wantProgramError(t, "fn f ( ) { ) } ) fn", api.ErrSyntax, 11)
	wantProgramError(t, "global x : i32 ; fn f ( ) { x = 1 ; } ;", api.ErrSyntax, 38)
	wantCondError(t, "x < < < y", api.ErrSyntax, 4)
	wantCondError(t, "x < 1 ; ; )", api.ErrSyntax, 6)
}

func TestTextBehindACondition(t *testing.T) {
	for _, s := range []string{";", "x", "1", "{", "}", ")", "]", "(", "[", "not", "==", "fn", "requires", "nothing", "i8", "= 1"} {
		wantCondError(t, "x < 1 "+s, api.ErrSyntax, 6)
	}
	wantCondError(t, "[x < 1] x < 1", api.ErrSyntax, 8)
	if c, e, _ := Cond("x < 1 # ; and more\n"); e != api.OK || len(c) != 1 {
		t.Errorf("3.1: a remark behind a condition: %d", e)
	}
}
