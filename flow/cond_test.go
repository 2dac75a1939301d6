package flow

import (
	"fmt"
	"testing"

	"calliper/api"
)

// TestIfs: each relation goes both ways, by what its sides have where they meet.
func TestIfs(t *testing.T) {
	const inputs = " { input x ; } else { input x ; input x ; }"
	const no, yes = "input 5; input 6; return f 0; done 0", "input 5; return f 0; done 0"
	var rows []row
	for _, c := range []struct {
		cond               string
		less, equal, above string // of x 1, 2, 3
	}{
		{"x == 2", no, yes, no}, {"x != 2", yes, no, yes}, {"x < 2", yes, no, no}, {"x <= 2", yes, yes, no}, {"x > 2", no, no, yes}, {"x >= 2", no, yes, yes},
		{"2 == x", no, yes, no}, {"2 != x", yes, no, yes}, {"2 < x", no, no, yes}, {"2 <= x", no, yes, yes}, {"2 > x", yes, no, no}, {"2 >= x", yes, yes, no},
		{"not x == 2", yes, no, yes}, {"not not x < 2", yes, no, no},
		{"x > 1 and x < 3", no, yes, no}, {"x < 2 or x > 2", yes, no, yes}, {"not [ x > 1 and x < 3 ]", yes, no, yes}, {"not [ x < 2 or x > 2 ]", no, yes, no},
		{"x > 1 and x > 2 or x == 1", yes, no, yes}, {"x > 1 and [ x > 2 or x == 1 ]", no, no, yes}, {"not x > 1 or x > 2 and not x == 2", yes, no, yes},
		{"x - 2 < 0 and x + 1 > 1 or not [ x < 3 or not x * x == 9 ]", yes, no, yes},
		// As numbers of 32 bits without a sign.
		{"x - 2 < 0u", no, no, no}, {"x - 2 > 4294967294u", yes, no, no}, {"4294967295u == x - 2", yes, no, no},
	} {
		for i, want := range []string{c.less, c.equal, c.above} {
			rows = append(rows, row{"fn f ( x : i32 ) { if " + c.cond + inputs + " }", []int{1 + i}, []int{5, 6}, fmt.Sprint("call f ", 1+i, "; ", want)})
		}
	}
	wantRows(t, "13.1", rows)
}

// TestUndefinedBehaviourOfConditions: of X, of Y, of both; and what is not come to has none.
func TestUndefinedBehaviourOfConditions(t *testing.T) {
	const div, shift, index = "call f 0; div@b; ub", "call f 0; shift@b; ub", "call f 0; index@b; ub"
	const done, held = "call f 0; return f 0; done 0", "call f 0; input 9; return f 0; done 0"
	var rows []row
	for _, c := range []struct{ cond, want string }{
		{"1 @b / x == 1", div}, {"1 == 1 @b / x", div}, {"1 @b << ( x - 1 ) > x", shift}, {"@b p [ x + 2 ] != x", index}, {"x >= @b p [ x - 1 ]", index},
		// X is ahead of Y, whatever their kinds are.
		{"1 @b / x == 1 << 99", div}, {"1 @b << 99 == 1 / x", shift}, {"@b p [ x + 2 ] == 1 / x", index}, {"1 @b / x < p [ x + 2 ]", div},
		{"1 + ( 2 @b / x ) == ( 3 / x )", div}, {"p [ @b p [ 7 ] ] == 1 / x", index},
		// In nots, ands and ors: the first that is come to.
		{"not 1 @b / x == 1", div}, {"not not 1 == 1 @b / x", div},
		{"1 @b / x == 1 and x == 0", div}, {"1 @b / x == 1 or x == 0", div}, {"x == 0 and 1 @b / x == 1", div}, {"x == 1 or 1 @b / x == 1", div},
		{"1 @b / x == 1 and 1 << 99 == 1", div}, {"1 @b / x == 1 or 1 << 99 == 1", div}, {"x == 0 and 1 @b << 99 == 1 or 1 / x == 1", shift},
		{"not [ x == 0 and not 1 @b / x == 1 ]", div}, {"[ x == 1 or x == 0 ] and [ x == 2 or 1 @b / x == 1 ]", div}, {"not [ x == 1 or x == 2 ] and not 1 @b / x == 1", div},
		{"x == 1 and 1 / x == 1 or 1 @b << 99 == 1", shift}, {"x == 1 and 1 / x == 1 or x == 2 and 1 << 99 == 1 or @b p [ 2 ] == 0", index},
		// What is not come to.
		{"x == 1 and 1 / x == 1", done}, {"x == 0 or 1 / x == 1", held}, {"not [ x == 0 or 1 / x == 1 ]", done}, {"not [ x == 1 and 1 / x == 1 ]", held},
		{"x == 1 and 1 / x == 1 or x == 0 or p [ 2 ] == 0", held}, {"[ x == 0 or 1 / x == 1 ] and not [ x == 1 and 1 << 99 == 1 ]", held}, {"x == 1 and [ 1 / x == 1 or x == 0 ]", done}, {"not x == 0 and 1 / x == 1 and 1 << 99 == 1", done},
	} {
		// Of an if, on either side of it, of a while, and of a call within a call.
		rows = append(rows,
			row{"fn f ( x : i32 ) { let p : u8 [ 2 ] ; if " + c.cond + " { input x ; } }", []int{0}, []int{9}, c.want},
			row{"fn f ( x : i32 ) { let p : u8 [ 2 ] ; if not [ " + c.cond + " ] { } else { input x ; } }", []int{0}, []int{9}, c.want},
			row{"fn f ( x : i32 ) { let p : u8 [ 2 ] ; while " + c.cond + " { input x ; break ; } }", []int{0}, []int{9}, c.want},
			row{"fn g ( x : i32 ) { let p : u8 [ 2 ] ; if x < 1 { if " + c.cond + " { input x ; } } } fn f ( x : i32 ) { call g ( x ) ; }", []int{0}, []int{9}, inG(c.want)})
	}
	wantRows(t, "13.1", rows)
}

// inG is a run of f as one of an f that calls g.
func inG(want string) string {
	const f = "call f 0; "
	const end = "return f 0; done 0"
	tail := want[len(f):]
	if n := len(tail) - len(end); n >= 0 && tail[n:] == end {
		tail = tail[:n] + "return g 0; " + end
	}
	return f + "call g 0; " + tail
}

// TestConditionsOfSeveralParents: a relation is an instruction for each way that leads to it, and each takes one fuel.
func TestConditionsOfSeveralParents(t *testing.T) {
	one := []api.Expr{{Kind: api.ENum, Num: 1, T: api.I32, A: -1, B: -1}}
	for n := range 13 {
		for _, kind := range []int{api.CAnd, api.COr} {
			// An or comes to all of them only if none holds.
			c := []api.Cond{{Kind: api.CRel, Rel: api.REq + kind - api.CAnd, X: one, Y: one}}
			for k := range n {
				c = append(c, api.Cond{Kind: kind, A: k, B: k})
			}
			p := api.Program{Funcs: []api.Func{{Name: "f", Body: []api.Stmt{{Kind: api.SIf, C: c}}}}}
			for _, fuel := range []int{0, 1<<n - 1, 1 << n, 1<<n + 1} {
				want := api.EndDone
				if fuel < 1<<n {
					want = api.EndFuel
				}
				if x := Run(p, "f", nil, nil, nil, fuel); x.End != want {
					t.Errorf("13.1: %d nodes of kind %d, fuel %d: end %d, want %d", n, kind, fuel, x.End, want)
				}
			}
		}
	}
}
