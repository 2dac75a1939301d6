package parse

import (
	"strings"
	"testing"

	"calliper/api"
)

// An opener makes what is within it one deeper.
type opener struct {
	open, close string
	sign        int // where in open the first token stands that is one deeper
}

func exprOpeners() []opener {
	return []opener{
		{"( ", ") ", 0}, {"- ", "", 0}, {"~ ", "", 0}, {"old ( ", ") ", 4}, {"u8 ( ", ") ", 3}, {"i32 ( ", ") ", 4}, {"a [ ", "] ", 2},
		// What is closed beside the nested part makes it no deeper.
		{"( x ) + ( ", ") ", 0}, {"( ", ") * ( x ) ", 0}, {"a [ x ] - a [ ", "] + a [ 0 ] ", 2}, {"~ x & ( ", ") | - x ", 0}, {"x << old ( ", ") << i8 ( x ) ", 9},
	}
}

func condOpeners() []opener {
	return []opener{{"[ ", "] ", 0}, {"not ", "", 0}, {"[ x < 1 ] and [ ", "] or [ x < 1 ] ", 0}, {"not x < 1 and [ ", "] or not x < 1 ", 0}, {"- x < ( x ) or [ ", "] or a [ 1 ] < 1 ", 0}}
}

func blockOpeners() []opener {
	return []opener{
		{"if x < 1 { ", "} ", 9}, {"while x < 1 { ", "} ", 12}, {"if x < 1 { } else { ", "} ", 9}, {"while x < 1 invariant [ x < 1 ] ; assigns nothing ; { ", "} ", 22},
		{"if x < 1 { } y [ x ] = 1 ; while not x < 1 { ", "} y [ x ] = ( x ) ; ", 9},
	}
}

// nested is in within n of an opener, and the place of the first token that is one deeper of the last of them.
func nested(o opener, in string, n int) (string, int) {
	return strings.Repeat(o.open, n) + in + strings.Repeat(o.close, n), (n-1)*len(o.open) + o.sign
}

func TestExpressionsAsDeepAsMayBe(t *testing.T) {
	for _, o := range exprOpeners() {
		ok, _ := nested(o, "x ", api.MaxNest)
		mustCond(t, ok+"== 1")
		mustCond(t, "1 == "+ok)
		// Side by side is not within.
		mustCond(t, ok+"== "+ok+"and "+ok+"< "+ok)
		deep, at := nested(o, "x ", api.MaxNest+1)
		wantCondError(t, deep+"== 1", api.ErrDeep, at)
		wantCondError(t, "1 == "+deep, api.ErrDeep, 5+at)
		wantCondError(t, ok+"== "+deep, api.ErrDeep, len(ok)+3+at)
		// The first one counts, however deep it goes.
		deeper, _ := nested(o, "x ", 3*api.MaxNest)
		wantCondError(t, deeper+"== "+deep, api.ErrDeep, at)
		wantCondError(t, deep+"== "+deeper, api.ErrDeep, at)
	}
}

func TestConditionsAsDeepAsMayBe(t *testing.T) {
	for _, o := range condOpeners() {
		ok, _ := nested(o, "x < 1 ", api.MaxNest)
		mustCond(t, ok)
		mustCond(t, ok+"and "+ok+"or "+ok)
		deep, at := nested(o, "x < 1 ", api.MaxNest+1)
		wantCondError(t, deep, api.ErrDeep, at)
		wantCondError(t, ok+"or "+deep, api.ErrDeep, len(ok)+3+at)
		wantProgramError(t, "fn f ( ) requires "+deep+"; { }", api.ErrDeep, 18+at)
	}
}

func TestBlocksAsDeepAsMayBe(t *testing.T) {
	const head = "fn f ( ) { "
	for _, o := range blockOpeners() {
		// The function's own block is the first.
		ok, _ := nested(o, "", api.MaxNest-1)
		mustProgram(t, head+ok+"} ")
		mustProgram(t, head+ok+ok+"} "+head+ok+"} ")
		deep, at := nested(o, "", api.MaxNest)
		wantProgramError(t, head+deep+"} ", api.ErrDeep, len(head)+at)
		wantProgramError(t, head+ok+deep+"} ", api.ErrDeep, len(head)+len(ok)+at)
		wantProgramError(t, head+ok+"} "+head+deep+"} ", api.ErrDeep, 2*len(head)+len(ok)+2+at)
	}
}

func TestKindsCountTogether(t *testing.T) {
	const head = "fn f ( ) { "
	for _, b := range blockOpeners() {
		for _, c := range condOpeners() {
			for _, x := range exprOpeners() {
				for _, n := range [][3]int{{10, 10, 9}, {27, 1, 1}, {1, 27, 1}, {1, 1, 27}, {0, 14, 15}, {28, 0, 1}} {
					text := func(more int) (string, int) {
						expr, inExpr := nested(x, "x ", n[2]+more)
						cond, _ := nested(c, expr+"== 1 ", n[1])
						block, _ := nested(b, "assert "+cond+"; ", n[0])
						return head + block + "} ", len(head) + n[0]*len(b.open) + len("assert ") + n[1]*len(c.open) + inExpr
					}
					ok, _ := text(0)
					deep, at := text(1)
					if len(deep) > api.MaxText {
						continue
					}
					mustProgram(t, ok)
					wantProgramError(t, deep, api.ErrDeep, at)
				}
			}
		}
	}
}

// In a block that is as deep as may be nothing that is one deeper can stand, and all that is not can.
func TestWhatIsOneDeeper(t *testing.T) {
	head := "fn f ( p : i8 [ 3 ] ) { " + strings.Repeat("if x < 1 { ", api.MaxNest-1)
	tail := strings.Repeat("} ", api.MaxNest)
	for _, s := range []string{
		"let y : i8 [ 4 ] ; ", "let y : i8 = x + 1 * 2 ; ", "x = result ; ", "call f ( ) ; ", "call f ( x , 1 ) ; ", "call y = f ( x ) ; ",
		"return ; ", "return x - 1 ; ", "break ; ", "continue ; ", "assert x < 1 and x > 1 or x == 1 ; ", "input x ; ",
	} {
		mustProgram(t, head+s+tail)
	}
	for _, m := range []string{
		"if x < 1 @{ } ", "while x < 1 @{ } ", "while x < 1 invariant x < 1 ; assigns x ; @{ } ", "while @[ x < 1 ] { } ", "while x < 1 invariant @not x < 1 ; { } ",
		"if x < 1 @{ } else { } ", "if @not x < 1 { } ", "y @[ x ] = 1 ; ", "y @[ 0 ] = ( x ) ; ", "y = a @[ x ] ; ", "y = @( x ) ; ", "y = @- 1 ; ", "y = x - @~ x ; ", "y = old @( x ) ; ", "y = i8 @( x ) ; ",
		"let y : i8 = @- x ; ", "let y : i8 = u8 @( x ) ; ", "call f ( @- 1 ) ; ", "call f ( x , @( x ) , ( x ) ) ; ", "call y = f ( a @[ 0 ] ) ; ", "return @( x ) ; ", "assert @[ x < 1 ] ; ", "assert @not x < 1 ; ", "assert x < @- 1 ; ",
	} {
		s, at := marked(t, m)
		wantProgramError(t, head+s+tail, api.ErrDeep, len(head)+at)
	}
}

func TestSyntaxCountsAheadOfDeep(t *testing.T) {
	// ErrSyntax is named ahead of ErrDeep (R2), wherever the two stand.
	deep := strings.Repeat("( ", api.MaxNest+1)
	shut := strings.Repeat(") ", api.MaxNest+1)
	wantCondError(t, deep, api.ErrSyntax, len(deep))
	wantCondError(t, deep+"x == 1", api.ErrSyntax, len(deep)+2)
	wantCondError(t, deep+"x "+shut+"== 1 ;", api.ErrSyntax, len(deep+shut)+7)
	wantCondError(t, deep+"x "+shut+"== 1", api.ErrDeep, 2*api.MaxNest)
	wantCondError(t, ") "+deep+"x "+shut+"== 1", api.ErrSyntax, 0)
	wantProgramError(t, "fn f ( ) { x = "+deep+"x "+shut+"; } }", api.ErrSyntax, 15+len(deep+shut)+6)
	wantProgramError(t, "fn f ( ) { x = "+deep+"x "+shut+"; }", api.ErrDeep, 15+2*(api.MaxNest-1))
}

func TestTextsFullOfOpeners(t *testing.T) {
	for _, s := range []string{"(", "[", "-", "~", "not ", "a[", "old(", "i8(", "-(", "[not "} {
		text := strings.Repeat(s, api.MaxText/len(s))
		wantCondError(t, text, api.ErrSyntax, len(text))
	}
	text := "fn f(){" + strings.Repeat("if a<1{", (api.MaxText-7)/7)
	wantProgramError(t, text, api.ErrSyntax, len(text))
	half := (api.MaxText - 4) / 2
	wantCondError(t, strings.Repeat("(", half)+"x"+strings.Repeat(")", half)+"<1", api.ErrDeep, api.MaxNest)
}
