package rules

import (
	"strings"
	"testing"
)

func TestWhereNamesMayStand(t *testing.T) {
	wantFaults(t, "5.2", []sample{
		// From behind its statement on.
		{"fn f ( ) { @a x = 1 ; let x : i8 = @b x ; x = 2 ; let y : i8 = x ; }", "none(x)@a none(x)@b"},
		{"fn f ( ) { @a x [ @b x [ 0 ] ] = 1 ; let x : i8 [ 2 ] ; x [ x [ 0 ] ] = x [ 1 ] ; }", "none(x)@b none(x)@a"},
		// To the end of its block.
		{"fn f ( ) { if 1 < 2 { let x : i8 = 1 ; x = 2 ; if x < 1 { x = 3 ; } } @a x = 4 ; }", "none(x)@a"},
		{"fn f ( ) { if 1 < 2 { let x : i8 = 1 ; } else { @a x = 2 ; } }", "none(x)@a"},
		{"fn f ( ) { while 1 < 2 { let x : i8 = 1 ; while x < 2 { x = 2 ; } } while @a x < 1 invariant @b x < 1 ; { @c input x ; } }", "none(x)@a none(x)@b none(x)@c"},
		{"fn f ( ) { if 1 < 2 { } else { let x : i8 = 1 ; x = 2 ; } @a x = 3 ; }", "none(x)@a"},
		{"fn f ( ) { while @a x < 1 { let x : i8 = 1 ; } }", "none(x)@a"},
		// Of its function alone.
		{"fn f ( p : i8 ) { let x : i8 = p ; } fn g ( ) { @a x = @b p ; } fn h ( x : i8 ) { let p : i8 = x ; }", "none(p)@b none(x)@a"},
		// A function's name is none that stands in expressions.
		{"fn f ( ) { let x : i8 = @a f ; @b f = x ; @c f [ 0 ] = 1 ; }", "none(f)@a none(f)@b none(f)@c"},
		// Clauses see no `let`.
		{"global g : i8 ; global h : i8 [ 2 ] ; fn f ( x : i8 , a : i8 [ 2 ] ) requires g < h [ 0 ] and x < a [ 0 ] ; requires @a y < @b b [ 0 ] ; ensures g < h [ 1 ] or x < a [ 1 ] ; ensures @c y < @d b [ 0 ] ; { let y : i8 = 1 ; let b : i8 [ 2 ] ; assert y < b [ 0 ] ; }",
			"none(y)@a none(b)@b none(y)@c none(b)@d"},
	})
}

func TestLetsThatAreThereAlready(t *testing.T) {
	wantFaults(t, "5.2", []sample{
		{"global g : i8 ; fn f ( x : i8 , a : i8 [ 2 ] ) { @a let g : i8 = 1 ; @b let x : i8 = 1 ; @c let a : i8 [ 2 ] ; let y : i8 = 1 ; @d let y : i8 [ 2 ] ; @e let y : i8 = 1 ; }", "twice(g)@a twice(x)@b twice(a)@c twice(y)@d twice(y)@e"},
		// Wherever the other one stood.
		{"fn f ( ) { if 1 < 2 { let x : i8 = 1 ; } else { @a let x : i8 = 1 ; x = 1 ; } @b let x : i8 = 1 ; while x < 1 { @c let x : i8 = x ; if x < 1 { @d let x : i8 = x ; } } }", "twice(x)@a twice(x)@b twice(x)@c twice(x)@d"},
		{"fn f ( ) { while 1 < 2 { while 1 < 2 { let a : u8 [ 3 ] ; } } @a let a : u8 = 1 ; a = 1 ; }", "twice(a)@a"},
		// Of another function: no matter.
		{"fn f ( p : i8 ) { let x : i8 = 1 ; } fn g ( x : i8 ) { let p : i8 = 1 ; let f : i8 = 1 ; let g : i8 = 1 ; } fn h ( ) { let x : i8 = 1 ; }", ""},
		// It stands all the same, until its block ends.
		{"fn f ( ) { let x : i8 = 1 ; if x < 1 { @a let x : i8 [ 2 ] ; x [ 0 ] = 1 ; @b x = 1 ; } x = 2 ; @c x [ 0 ] = 1 ; }", "twice(x)@a kind(x)@b kind(x)@c"},
		{"fn f ( ) { if 1 < 2 { let x : i8 = 1 ; } @a let x : i8 [ 2 ] ; x [ 1 ] = 1 ; }", "twice(x)@a"},
		// The expression comes first.
		{"global x : i8 ; fn f ( ) { @a let x : i8 = @b y ; }", "none(y)@b twice(x)@a"},
	})
}

func TestSizesOfLets(t *testing.T) {
	wantFaults(t, "5.2", []sample{
		{"fn f ( ) { @a let a : i8 [ 0 ] ; let b : i8 [ 1 ] ; let c : i8 [ 16 ] ; @b let d : i8 [ 17 ] ; }", "size(a)@a size(d)@b"},
		{"fn f ( a : i8 ) { @a let a : i8 [ 0 ] ; if 1 < 2 { @b let a : i8 [ 17 ] ; } }", "twice(a)@a size(a)@a twice(a)@b size(a)@b"},
		// They are arrays all the same, that of no elements too.
		{"fn f ( ) { @a let a : i8 [ 0 ] ; @b let b : i8 [ 17 ] ; a [ 0 ] = b [ 16 ] ; @c a = 1 ; @d b = @e a ; assert @f a [ 0 ] < b [ 16 ] and @g b [ 17 ] < 1 ; }", "size(a)@a size(b)@b kind(a)@c kind(a)@e kind(b)@d size(a)@f size(b)@g"},
	})
}

func TestKindsInExpressions(t *testing.T) {
	wantFaults(t, "5.2", []sample{
		{"global g : i8 ; global h : i8 [ 2 ] ; fn f ( x : i8 , a : i8 [ 2 ] ) { let y : i8 = 1 ; let b : i8 [ 2 ] ; y = g + @a h + x + @b a + y + @c b + @d n ; }", "kind(h)@a kind(a)@b kind(b)@c none(n)@d"},
		{"global g : i8 ; global h : i8 [ 2 ] ; fn f ( x : i8 , a : i8 [ 2 ] ) { let y : i8 = 1 ; let b : i8 [ 2 ] ; y = @a g [ 0 ] + h [ 0 ] + @b x [ 0 ] + a [ 0 ] + @c y [ 0 ] + b [ 0 ] + @d n [ 0 ] ; }", "kind(g)@a kind(x)@b kind(y)@c none(n)@d"},
		// Nodes in order: an index ahead of its array, the left ahead of the right.
		{"fn f ( x : i8 , a : i8 [ 2 ] ) { x = @a p [ @b q [ @c r ] + @d s ] * - @e t - ~ u8 ( @f u ) ; }", "none(r)@c none(q)@b none(s)@d none(p)@a none(t)@e none(u)@f"},
		{"fn f ( x : i8 , a : i8 [ 2 ] ) { x = a [ @a a ] + @b x [ @c a ] ; }", "kind(a)@a kind(a)@c kind(x)@b"},
		{"fn f ( ) { assert not [ @a p == @b q or @c r != @d s ] and @e t < @f u ; }", "none(p)@a none(q)@b none(r)@c none(s)@d none(t)@e none(u)@f"},
		{"fn f ( a : i8 [ 2 ] ) requires @a a < 1 ; ensures @b f [ 1 ] < @c a ; { while @d a < 1 invariant @e a < 1 ; { } if @f a < 1 { } }", "kind(a)@a none(f)@b kind(a)@c kind(a)@d kind(a)@e kind(a)@f"},
		{"fn f ( a : i8 [ 2 ] , x : i8 ) : i8 ensures old ( @a a ) < old ( @b x [ 0 ] ) and old ( @c n + x ) < a [ 0 ] ; { return @d a ; }", "kind(a)@a kind(x)@b none(n)@c kind(a)@d"},
	})
}

func TestOldAndResult(t *testing.T) {
	// What stands in a condition: in Ensures nothing is wrong, else all is.
	const both = "@a old ( x ) == @b result"
	wantFaults(t, "5.2", []sample{
		{"fn f ( x : i8 ) : i8 ensures " + both + " ; { return x ; }", ""},
		{"fn f ( x : i8 ) : i8 requires " + both + " ; { return x ; }", "old()@a old()@b"},
		{"fn f ( x : i8 ) : i8 { assert " + both + " ; }", "old()@a old()@b"},
		{"fn f ( x : i8 ) : i8 { if " + both + " { } }", "old()@a old()@b"},
		{"fn f ( x : i8 ) : i8 { while " + both + " { } }", "old()@a old()@b"},
		{"fn f ( x : i8 ) : i8 { while x < 1 invariant x < 1 ; invariant " + both + " ; { } }", "old()@a old()@b"},
		{"fn f ( x : i8 , a : i8 [ 2 ] ) : i8 assigns a ; { a [ @a old ( x ) ] = @b result ; let y : i8 = @c old ( 1 ) ; call y = f ( @d result , a ) ; return @e old ( x ) ; }", "old()@a old()@b old()@c old()@d old()@e"},
		// Without a result.
		{"fn f ( x : i8 ) ensures " + both + " ; requires @c result < @d old ( 1 ) ; { }", "old()@c old()@d old()@b"},
		{"fn f ( x : i8 ) { x = @a result + 1 ; }", "old()@a"},
		// Within one another, however far.
		{"fn f ( x : i8 ) ensures old ( @a old ( x ) ) == old ( x ) + old ( x ) ; { }", "old()@a"},
		{"fn f ( x : i8 ) ensures old ( @a old ( @b old ( x ) ) ) == 1 ; { }", "old()@b old()@a"},
		{"fn f ( x : i8 ) ensures 1 == old ( x - u8 ( - ( 1 + @a old ( x ) ) ) ) ; { }", "old()@a"},
		{"fn f ( x : i8 ) ensures old ( @a old ( 1 ) + 2 * @b old ( 3 ) ) < old ( 1 ) + old ( 2 ) ; { }", "old()@a old()@b"},
		{"fn f ( x : i8 , a : i8 [ 2 ] ) ensures old ( @a a [ @b old ( x ) ] ) < a [ 1 ] ; { }", "old()@b old(a)@a"},
		{"fn f ( x : i8 ) : i8 ensures old ( result + x ) < 1 ; { }", ""},
		// One fault of a node, though two things be wrong with it.
		{"fn f ( x : i8 ) requires @a old ( @b old ( x ) ) == @c result ; { x = @d old ( @e old ( x ) ) ; }", "old()@b old()@a old()@c old()@e old()@d"},
	})
}

func TestIndicesOfWhatIsToHold(t *testing.T) {
	const rel = "a [ 0 ] == a [ 2 ] and @a a [ 3 ] < @b a [ 16 ] or not @c a [ x ] < @d a [ 1 + 0 ] and @e a [ a [ 1 ] ] < @f a [ - 1 ] and a [ ( 1 ) ] < a [ 2u ] and @g a [ 4294967295u ] < @h a [ u8 ( 1 ) ]"
	const want = "size(a)@a size(a)@b old(a)@c old(a)@d old(a)@e old(a)@f size(a)@g old(a)@h"
	for _, src := range []string{
		"fn f ( x : i8 , a : i8 [ 3 ] ) requires R ; { }", "fn f ( x : i8 , a : i8 [ 3 ] ) ensures R ; { }", "fn f ( x : i8 , a : i8 [ 3 ] ) { assert R ; }", "fn f ( x : i8 , a : i8 [ 3 ] ) { while x < 1 invariant R ; { } }",
		"global a : u32 [ 3 ] ; fn f ( x : i8 ) requires R ; { }", "global a : u32 [ 3 ] ; global x : u8 ; fn f ( ) ensures R ; { }", "fn f ( x : i8 ) { let a : i8 [ 3 ] ; assert R ; }", "fn f ( x : i8 ) { let a : i8 [ 3 ] ; while x < 1 { while x < 1 invariant 1 < 2 ; invariant R ; { } } }",
	} {
		wantFaults(t, "5.2", []sample{{strings.Replace(src, "R", rel, 1), want}})
	}
	plain, _ := unmark(rel)
	wantFaults(t, "5.2", []sample{
		// Elsewhere any index may stand.
		{"fn f ( x : i8 , a : i8 [ 3 ] ) : i8 assigns a ; { if " + plain + " { } while " + plain + " { } let y : i8 = a [ x ] + a [ 3 ] ; a [ a [ 3 ] ] = a [ x + 1 ] ; a [ 16 ] = 1 ; call x = f ( a [ x ] , a ) ; return a [ - 1 ] ; }", ""},
		// What is no array has no size; that its index is no number is told all the same.
		{"fn f ( x : i8 ) requires @a x [ 0 ] < @b n [ 5 ] and @c x [ x ] < @d n [ x ] ; { assert @e x [ 0 ] < 1 and @f n [ 1 + 1 ] < 1 ; }", "kind(x)@a none(n)@b kind(x)@c old(x)@c none(n)@d old(n)@d kind(x)@e none(n)@f old(n)@f"},
		{"fn f ( a : i8 [ 2 ] ) ensures old ( a [ 1 ] + @a a [ 2 ] ) == old ( @b a [ a [ 1 ] ] ) ; { }", "size(a)@a old(a)@b"},
		{"fn f ( a : i8 [ 2 ] ) requires @a a [ @b a [ 2 ] ] < 1 ; { assert @c a [ @d a ] < 1 ; }", "size(a)@b old(a)@a kind(a)@d old(a)@c"},
		{"fn f ( a : i8 [ 1 ] , b : i8 [ 16 ] ) requires a [ 0 ] < @a a [ 1 ] and b [ 15 ] < @b b [ 16 ] ; { }", "size(a)@a size(b)@b"},
		// Of a name that is there twice the last one counts.
		{"global a : i8 [ 4 ] ; fn f ( @a a : i8 [ 2 ] ) requires a [ 1 ] < @b a [ 2 ] ; { if 1 < 2 { @c let a : i8 [ 3 ] ; assert a [ 2 ] < @d a [ 3 ] ; } assert @e a [ 2 ] < 1 ; } fn g ( ) requires a [ 3 ] < @f a [ 4 ] ; { }", "twice(a)@a size(a)@b twice(a)@c size(a)@d size(a)@e size(a)@f"},
	})
}
