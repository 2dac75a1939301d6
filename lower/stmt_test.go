package lower

import (
	"testing"

	"calliper/api"
)

func TestNoBody(t *testing.T) {
	wantRows(t, []row{{"", "from end"}})
	for _, f := range []api.Func{{}, {Body: []api.Stmt{}}, mustFunc(t, "fn f ( x : i8 , a : u8 [ 2 ] ) : i8 requires x < 1 ; ensures x > 1 ; assigns a ; { }")} {
		if l, entry := Lower(f); len(l) != 0 || entry != -1 {
			t.Errorf("11.1: %+v: %s", f, text(l, entry, nil))
		}
	}
}

// single is each kind of statement without bodies that is put.
var single = []struct{ kind, src string }{
	{"let", "let x : i8 = y + 1 ;"}, {"array", "let a : u8 [ 3 ] ;"}, {"set", "x = y + 1 ;"}, {"elem", "a [ x + 1 ] = y + 2 ;"},
	{"call", "call g ( ) ;"}, {"call", "call x = g ( y + 1 , a , 2 ) ;"}, {"assert", "assert not x < 1 and y > 2 ;"}, {"input", "input x ;"},
}

func TestSingleStatements(t *testing.T) {
	for _, s := range single {
		a, b := "@a "+s.src, "@b w = 2 ; "
		wantRows(t, []row{
			{a, "0 " + s.kind + "@a > end; from 0"},
			{a + b, "0 set@b > end; 1 " + s.kind + "@a > 0; from 1"},
			{b + a, "0 " + s.kind + "@a > end; 1 set@b > 0; from 1"},
			{"@c input z ; " + a + b, "0 set@b > end; 1 " + s.kind + "@a > 0; 2 input@c > 1; from 2"},
			{"@h while x @r < 1 { " + a + " }", "0 head@h > 2; 1 " + s.kind + "@a > 0; 2 if@r x<1 > 1|end; from 0"},
			{"if x @r < 1 { " + a + " } " + b, "0 set@b > end; 1 " + s.kind + "@a > 0; 2 if@r x<1 > 1|0; from 2"},
		})
	}
}

func TestReturns(t *testing.T) {
	wantRows(t, []row{
		{"@a return ;", "0 return@a > end; from 0"},
		{"@a return x + 1 ;", "0 return@a > end; from 0"},
		{"@b w = 2 ; @a return ;", "0 return@a > end; 1 set@b > 0; from 1"},
		{"@a return ; @b w = 2 ;", "0 set@b > end; 1 return@a > end; from 1"},
		{"@c x = 1 ; @a return 2 ; @b w = 2 ;", "0 set@b > end; 1 return@a > end; 2 set@c > 1; from 2"},
		{"@a return ; @b return 1 ;", "0 return@b > end; 1 return@a > end; from 1"},
		{"if x @r < 1 { @a return ; } @b w = 2 ;", "0 set@b > end; 1 return@a > end; 2 if@r x<1 > 1|0; from 2"},
		{"@h while x @r < 1 { @a return 3 ; @b w = 2 ; } @c y = 1 ;", "0 set@c > end; 1 head@h > 4; 2 set@b > 1; 3 return@a > end; 4 if@r x<1 > 3|0; from 1"},
	})
}

func TestIfs(t *testing.T) {
	wantRows(t, []row{
		{"if x @r < 1 { @a y = 1 ; }", "0 set@a > end; 1 if@r x<1 > 0|end; from 1"},
		{"if x @r < 1 { @a y = 1 ; } else { @b y = 2 ; }", "0 set@b > end; 1 set@a > end; 2 if@r x<1 > 1|0; from 2"},
		{"if x @r < 1 { @a y = 1 ; } @z z = 1 ;", "0 set@z > end; 1 set@a > 0; 2 if@r x<1 > 1|0; from 2"},
		{"if x @r < 1 { @a y = 1 ; } else { @b y = 2 ; } @z z = 1 ;", "0 set@z > end; 1 set@b > 0; 2 set@a > 0; 3 if@r x<1 > 2|1; from 3"},
		{"@z z = 1 ; if x @r < 1 { @a y = 1 ; @c y = 3 ; } else { @b y = 2 ; @d y = 4 ; }", "0 set@d > end; 1 set@b > 0; 2 set@c > end; 3 set@a > 2; 4 if@r x<1 > 3|1; 5 set@z > 4; from 5"},
		// Bodies without statements.
		{"if x @r < 1 { }", "0 if@r x<1 > end|end; from 0"},
		{"if x @r < 1 { } else { }", "0 if@r x<1 > end|end; from 0"},
		{"if x @r < 1 { } @z z = 1 ;", "0 set@z > end; 1 if@r x<1 > 0|0; from 1"},
		{"if x @r < 1 { } else { @b y = 2 ; } @z z = 1 ;", "0 set@z > end; 1 set@b > 0; 2 if@r x<1 > 0|1; from 2"},
		{"if x @r < 1 { @a y = 2 ; } else { } @z z = 1 ;", "0 set@z > end; 1 set@a > 0; 2 if@r x<1 > 1|0; from 2"},
		// Within one another, and one behind the other.
		{"if x @r < 1 { if x @s < 2 { @a y = 1 ; } else { @b y = 2 ; } } else { if x @u < 3 { @c y = 3 ; } @d y = 4 ; }", "0 set@d > end; 1 set@c > 0; 2 if@u x<3 > 1|0; 3 set@b > end; 4 set@a > end; 5 if@s x<2 > 4|3; 6 if@r x<1 > 5|2; from 6"},
		{"if x @r < 1 { if x @s < 2 { } @a y = 1 ; } @z z = 1 ;", "0 set@z > end; 1 set@a > 0; 2 if@s x<2 > 1|1; 3 if@r x<1 > 2|0; from 3"},
		{"if x @r < 1 { @a y = 1 ; } if x @s < 2 { @b y = 2 ; }", "0 set@b > end; 1 if@s x<2 > 0|end; 2 set@a > 1; 3 if@r x<1 > 2|1; from 3"},
	})
}

func TestLoops(t *testing.T) {
	wantRows(t, []row{
		{"@h while x @r < 1 { }", "0 head@h > 1; 1 if@r x<1 > 0|end; from 0"},
		{"@h while x @r < 1 { @a x = 1 ; }", "0 head@h > 2; 1 set@a > 0; 2 if@r x<1 > 1|end; from 0"},
		{"@z z = 1 ; @h while x @r < 1 { @a x = 1 ; @b y = 2 ; } @c y = 3 ;", "0 set@c > end; 1 head@h > 4; 2 set@b > 1; 3 set@a > 2; 4 if@r x<1 > 3|0; 5 set@z > 1; from 5"},
		// Invariants stand in order between the head and the look, and the head leads to the first one.
		{"@h while x @r < 1 @i invariant y > 2 ; { }", "0 head@h > 2; 1 if@r x<1 > 0|end; 2 inv@i y>2 > 1; from 0"},
		{"@h while x @r < 1 @i invariant y > 2 ; @j invariant z > 3 and x < 4 ; @k invariant w > 5 ; assigns y , z ; { @a y = 1 ; } @b z = 1 ;", "0 set@b > end; 1 head@h > 6; 2 set@a > 1; 3 if@r x<1 > 2|0; 4 inv@k w>5 > 3; 5 inv@j [z>3 and x<4] > 4; 6 inv@i y>2 > 5; from 1"},
		{"@h while x @r < 1 assigns y ; { @a y = 1 ; }", "0 head@h > 2; 1 set@a > 0; 2 if@r x<1 > 1|end; from 0"},
		// Within one another, and one behind the other.
		{"@h while x @r < 1 { @g while y @s < 2 @i invariant z > 3 ; { @a y = 1 ; } @b x = 2 ; }", "0 head@h > 6; 1 set@b > 0; 2 head@g > 5; 3 set@a > 2; 4 if@s y<2 > 3|1; 5 inv@i z>3 > 4; 6 if@r x<1 > 2|end; from 0"},
		{"@h while x @r < 1 { @g while y @s < 2 { } }", "0 head@h > 3; 1 head@g > 2; 2 if@s y<2 > 1|0; 3 if@r x<1 > 1|end; from 0"},
		{"@h while x @r < 1 { } @g while y @s < 2 { }", "0 head@g > 1; 1 if@s y<2 > 0|end; 2 head@h > 3; 3 if@r x<1 > 2|0; from 2"},
		{"if x @r < 1 { @h while y @s < 2 { } } else { @g while z @u < 3 { } }", "0 head@g > 1; 1 if@u z<3 > 0|end; 2 head@h > 3; 3 if@s y<2 > 2|end; 4 if@r x<1 > 2|0; from 4"},
	})
}

func TestBreaksAndContinues(t *testing.T) {
	wantRows(t, []row{
		// Alone, first, last, in the middle.
		{"@h while x @r < 1 { break ; } @z z = 1 ;", "0 set@z > end; 1 head@h > 2; 2 if@r x<1 > 0|0; from 1"},
		{"@h while x @r < 1 { continue ; } @z z = 1 ;", "0 set@z > end; 1 head@h > 2; 2 if@r x<1 > 1|0; from 1"},
		{"@h while x @r < 1 { break ; @a x = 1 ; } @z z = 1 ;", "0 set@z > end; 1 head@h > 3; 2 set@a > 1; 3 if@r x<1 > 0|0; from 1"},
		{"@h while x @r < 1 { continue ; @a x = 1 ; }", "0 head@h > 2; 1 set@a > 0; 2 if@r x<1 > 0|end; from 0"},
		{"@h while x @r < 1 { @a x = 1 ; break ; } @z z = 1 ;", "0 set@z > end; 1 head@h > 3; 2 set@a > 0; 3 if@r x<1 > 2|0; from 1"},
		{"@h while x @r < 1 { @a x = 1 ; continue ; } @z z = 1 ;", "0 set@z > end; 1 head@h > 3; 2 set@a > 1; 3 if@r x<1 > 2|0; from 1"},
		{"@h while x @r < 1 { @a x = 1 ; break ; @b y = 1 ; }", "0 head@h > 3; 1 set@b > 0; 2 set@a > end; 3 if@r x<1 > 2|end; from 0"},
		{"@h while x @r < 1 { break ; continue ; }", "0 head@h > 1; 1 if@r x<1 > end|end; from 0"},
		// In ifs within it; a continue goes by the invariants.
		{"@h while x @r < 1 @i invariant w > 2 ; { if x @s < 2 { break ; } else { continue ; } @a x = 1 ; } @z z = 1 ;", "0 set@z > end; 1 head@h > 5; 2 set@a > 1; 3 if@s x<2 > 0|1; 4 if@r x<1 > 3|0; 5 inv@i w>2 > 4; from 1"},
		{"@h while x @r < 1 { if x @s < 2 { if x @u < 3 { @a x = 1 ; break ; } continue ; } @b x = 2 ; }", "0 head@h > 5; 1 set@b > 0; 2 set@a > end; 3 if@u x<3 > 2|0; 4 if@s x<2 > 3|1; 5 if@r x<1 > 4|end; from 0"},
		// Of the innermost loop.
		{"@h while x @r < 1 { @g while y @s < 2 { if y @u < 3 { break ; } continue ; } @b x = 2 ; break ; } @z z = 1 ;", "0 set@z > end; 1 head@h > 6; 2 set@b > 0; 3 head@g > 5; 4 if@u y<3 > 2|3; 5 if@s y<2 > 4|2; 6 if@r x<1 > 3|0; from 1"},
		{"@h while x @r < 1 { @g while y @s < 2 { } if y @u < 3 { break ; } else { continue ; } }", "0 head@h > 4; 1 if@u y<3 > end|0; 2 head@g > 3; 3 if@s y<2 > 2|1; 4 if@r x<1 > 2|end; from 0"},
		// In no loop they end the function.
		{"break ;", "from end"}, {"continue ;", "from end"},
		{"@a x = 1 ; break ; @b y = 1 ;", "0 set@b > end; 1 set@a > end; from 1"},
		{"if x @r < 1 { continue ; } else { break ; } @b y = 1 ;", "0 set@b > end; 1 if@r x<1 > end|end; from 1"},
	})
}

func TestConditions(t *testing.T) {
	// yes: 1, no: 0.
	const y, n = "{ @y y = 1 ; } else { @n y = 2 ; }", "0 set@n > end; 1 set@y > end; "
	wantRows(t, []row{
		{"if a @a == 1 " + y, n + "2 if@a a==1 > 1|0; from 2"},
		{"if a @a != b + 1 " + y, n + "2 if@a a!=b + 1 > 1|0; from 2"},
		{"if 1 @a <= b [ 2 ] " + y, n + "2 if@a 1<=b [ 2 ] > 1|0; from 2"},
		{"if a @a > 1u " + y, n + "2 if@a a>1u > 1|0; from 2"},
		{"if a @a >= 1 " + y, n + "2 if@a a>=1 > 1|0; from 2"},
		{"if not a @a < 1 " + y, n + "2 if@a a<1 > 0|1; from 2"},
		{"if not not a @a < 1 " + y, n + "2 if@a a<1 > 1|0; from 2"},
		{"if not not not a @a < 1 " + y, n + "2 if@a a<1 > 0|1; from 2"},
		// The right side is put first, the left one is where it begins.
		{"if a @a < 1 and b @b < 2 " + y, n + "2 if@b b<2 > 1|0; 3 if@a a<1 > 2|0; from 3"},
		{"if a @a < 1 or b @b < 2 " + y, n + "2 if@b b<2 > 1|0; 3 if@a a<1 > 1|2; from 3"},
		{"if not [ a @a < 1 and b @b < 2 ] " + y, n + "2 if@b b<2 > 0|1; 3 if@a a<1 > 2|1; from 3"},
		{"if not [ a @a < 1 or b @b < 2 ] " + y, n + "2 if@b b<2 > 0|1; 3 if@a a<1 > 0|2; from 3"},
		{"if not a @a < 1 and b @b < 2 " + y, n + "2 if@b b<2 > 1|0; 3 if@a a<1 > 0|2; from 3"},
		{"if a @a < 1 and not b @b < 2 " + y, n + "2 if@b b<2 > 0|1; 3 if@a a<1 > 2|0; from 3"},
		{"if not a @a < 1 or not b @b < 2 " + y, n + "2 if@b b<2 > 0|1; 3 if@a a<1 > 2|1; from 3"},
		// Three, both ways.
		{"if a @a < 1 and b @b < 2 and c @c < 3 " + y, n + "2 if@c c<3 > 1|0; 3 if@b b<2 > 2|0; 4 if@a a<1 > 3|0; from 4"},
		{"if a @a < 1 and [ b @b < 2 and c @c < 3 ] " + y, n + "2 if@c c<3 > 1|0; 3 if@b b<2 > 2|0; 4 if@a a<1 > 3|0; from 4"},
		{"if a @a < 1 or b @b < 2 or c @c < 3 " + y, n + "2 if@c c<3 > 1|0; 3 if@b b<2 > 1|2; 4 if@a a<1 > 1|3; from 4"},
		{"if a @a < 1 or [ b @b < 2 or c @c < 3 ] " + y, n + "2 if@c c<3 > 1|0; 3 if@b b<2 > 1|2; 4 if@a a<1 > 1|3; from 4"},
		{"if a @a < 1 and b @b < 2 or c @c < 3 " + y, n + "2 if@c c<3 > 1|0; 3 if@b b<2 > 1|2; 4 if@a a<1 > 3|2; from 4"},
		{"if a @a < 1 or b @b < 2 and c @c < 3 " + y, n + "2 if@c c<3 > 1|0; 3 if@b b<2 > 2|0; 4 if@a a<1 > 1|3; from 4"},
		{"if [ a @a < 1 or b @b < 2 ] and c @c < 3 " + y, n + "2 if@c c<3 > 1|0; 3 if@b b<2 > 2|0; 4 if@a a<1 > 2|3; from 4"},
		{"if a @a < 1 and [ b @b < 2 or c @c < 3 ] " + y, n + "2 if@c c<3 > 1|0; 3 if@b b<2 > 1|2; 4 if@a a<1 > 3|0; from 4"},
		{"if [ a @a < 1 and b @b < 2 ] or [ c @c < 3 and d @d < 4 ] " + y, n + "2 if@d d<4 > 1|0; 3 if@c c<3 > 2|0; 4 if@b b<2 > 1|3; 5 if@a a<1 > 4|3; from 5"},
		{"if [ a @a < 1 or b @b < 2 ] and not [ c @c < 3 or d @d < 4 ] " + y, n + "2 if@d d<4 > 0|1; 3 if@c c<3 > 0|2; 4 if@b b<2 > 3|0; 5 if@a a<1 > 3|4; from 5"},
		{"if not [ a @a < 1 and not [ b @b < 2 or c @c < 3 ] ] " + y, n + "2 if@c c<3 > 1|0; 3 if@b b<2 > 1|2; 4 if@a a<1 > 3|1; from 4"},
		// Of a loop: the head leads to the left side, a body goes back to the head.
		{"@h while a @a < 1 and b @b < 2 @i invariant c > 3 ; { @y y = 1 ; } @z z = 1 ;", "0 set@z > end; 1 head@h > 5; 2 set@y > 1; 3 if@b b<2 > 2|0; 4 if@a a<1 > 3|0; 5 inv@i c>3 > 4; from 1"},
		{"@h while not [ a @a < 1 and b @b < 2 ] { }", "0 head@h > 2; 1 if@b b<2 > end|0; 2 if@a a<1 > 1|0; from 0"},
		// Those of asserts and of invariants are no instructions.
		{"@s assert a < 1 and b < 2 or not c < 3 ;", "0 assert@s > end; from 0"},
		{"@h while a @a < 1 @i invariant not [ b < 2 or c < 3 and d < 4 ] ; { }", "0 head@h > 2; 1 if@a a<1 > 0|end; 2 inv@i not [b<2 or [c<3 and d<4]] > 1; from 0"},
	})
}
