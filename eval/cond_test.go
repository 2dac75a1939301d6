package eval

import (
	"fmt"
	"testing"

	"calliper/api"
	"calliper/memory"
)

func TestRelations(t *testing.T) {
	e := world("x:i32=5 n:i8=-1 w:u32=4294967295 y:u8=255 a:i16[3]=1,-2,3", "x:i32=7")
	wantTests(t, e, []row{
		{"x == 5", "true"}, {"x == 6", "false"}, {"x != 6", "true"}, {"x != 5", "false"},
		{"x < 6", "true"}, {"x < 5", "false"}, {"x <= 5", "true"}, {"x <= 4", "false"},
		{"x > 4", "true"}, {"x > 5", "false"}, {"x >= 5", "true"}, {"x >= 6", "false"},
		{"4 < x", "true"}, {"6 > x", "true"}, {"a [ 1 ] < n", "true"}, {"x < old ( x )", "true"}, {"old ( x ) == 7", "true"},
		// Both are of the type in which they meet.
		{"n == w", "true"}, {"w == n", "true"}, {"n < 0", "true"}, {"n < 0u", "false"}, {"0u > n", "false"}, {"0u < n", "true"}, {"n == 4294967295u", "true"}, {"n == y", "false"}, {"n < y", "true"}, {"y < n", "false"}, {"w > x", "true"}, {"i32 ( w ) < x", "true"}, {"w >= 4294967295u", "true"}, {"- 1 < 1u", "false"}, {"u8 ( n ) == y", "true"},
		{"nix == 0", "true"}, {"nix < 1u", "true"}, {"nix > n", "true"},
	})
}

// TestRelationsOfAllTypes: -1 and 1, of each two types, as they come.
func TestRelationsOfAllTypes(t *testing.T) {
	e := world(oneOfEach(-1), "")
	for a := api.I8; a <= api.U32; a++ {
		for b := api.I8; b <= api.U32; b++ {
			x, y := []int{0, -1, 255, -1, 65535, -1, 4294967295}[a], []int{0, -1, 255, -1, 65535, -1, 4294967295}[b]
			if a == api.U32 || b == api.U32 {
				x, y = int(uint32(x)), int(uint32(y))
			}
			for sign, is := range map[string]bool{"==": x == y, "!=": x != y, "<": x < y, "<=": x <= y, ">": x > y, ">=": x >= y} {
				wantTests(t, e, []row{{fmt.Sprintf("v%d %s v%d", a, sign, b), fmt.Sprint(is)}})
			}
		}
	}
}

func TestRelationsWithUndefinedBehaviour(t *testing.T) {
	e := world("a:i16[3]=1,-2,3", "")
	wantTests(t, e, []row{
		{"1 @/ 0 == 0", "false div"}, {"1 @/ 0 != 0", "false div"}, {"0 == 1 @/ 0", "false div"}, {"0 <= @a [ 3 ]", "false index"}, {"1 @<< 32 < 1", "false shift"}, {"2147483647 @+ 1 > 0", "false over"},
		{"1 @/ 0 == a [ 9 ]", "false div"}, {"@a [ 9 ] == 1 / 0", "false index"}, {"a [ 2 ] == @a [ 9 ]", "false index"}, {"a [ 1 @/ 0 ] == a [ 9 ]", "false div"}, {"nix [ 9 ] == a [ 0 ] - 1", "true"},
	})
}

func TestNot(t *testing.T) {
	e := world("x:i32=5 a:i8[1]=0", "")
	wantTests(t, e, []row{
		{"not x == 5", "false"}, {"not x == 6", "true"}, {"not not x == 5", "true"}, {"not not not x == 5", "false"}, {"not [ x == 5 and x == 6 ]", "true"}, {"not [ x == 5 or x == 6 ]", "false"},
		// Undefined behaviour does not hold, nor does its contrary.
		{"not x @/ 0 == 0", "false div"}, {"not not x @/ 0 == 0", "false div"}, {"not @a [ 1 ] == 0", "false index"}, {"not [ x == 5 and x @/ 0 == 0 ]", "false div"}, {"not [ x == 6 or x @/ 0 == 0 ]", "false div"}, {"not [ x == 6 and x / 0 == 0 ]", "true"}, {"not [ x == 5 or x / 0 == 0 ]", "false"},
	})
}

func TestAndAndOr(t *testing.T) {
	e := world("x:i32=5 a:i8[1]=0", "")
	wantTests(t, e, []row{
		{"x == 5 and x < 6", "true"}, {"x == 5 and x < 5", "false"}, {"x == 6 and x < 6", "false"}, {"x == 6 and x < 5", "false"},
		{"x == 5 or x < 6", "true"}, {"x == 5 or x < 5", "true"}, {"x == 6 or x < 6", "true"}, {"x == 6 or x < 5", "false"},
		// B is looked at only where A leaves it open.
		{"x == 6 and x / 0 == 0", "false"}, {"x == 5 and x @/ 0 == 0", "false div"}, {"x == 5 or x / 0 == 0", "true"}, {"x == 6 or x @/ 0 == 0", "false div"},
		{"x @/ 0 == 0 and x == 5", "false div"}, {"x @/ 0 == 0 or x == 5", "false div"}, {"x @/ 0 == 0 and x == 6", "false div"}, {"x @/ 0 == 0 or x == 6", "false div"},
		{"@a [ 1 ] == 0 and x / 0 == 0", "false index"}, {"@a [ 1 ] == 0 or x / 0 == 0", "false index"}, {"x @/ 0 == 0 or a [ 1 ] == 0", "false div"},
		// From the left; `and` is nearer than `or`.
		{"x == 6 and x == 5 or x == 5", "true"}, {"x == 5 or x == 6 and x == 6", "true"}, {"[ x == 5 or x == 6 ] and x == 6", "false"}, {"x == 6 or x == 7 or x == 5", "true"}, {"x == 5 and x < 9 and x == 6", "false"},
		{"x == 6 and x / 0 == 0 or x == 5", "true"}, {"x == 6 and x / 0 == 0 or @a [ 1 ] == 0", "false index"}, {"x == 5 and x @/ 0 == 0 or a [ 1 ] == 0", "false div"}, {"[ x == 6 or @a [ 1 ] == 0 ] and x / 0 == 0", "false index"}, {"x == 5 or x / 0 == 0 or a [ 1 ] == 0", "true"}, {"[ x == 5 or x / 0 == 0 ] and @a [ 1 ] == 0", "false index"}, {"not x == 5 and x / 0 == 0", "false"}, {"not x == 6 and x @/ 0 == 0", "false div"},
	})
}

// holds is a CRel that holds, or does not.
func holds(is bool) api.Cond {
	c := api.Cond{Kind: api.CRel, Rel: api.RNe, X: []api.Expr{number(1)}, Y: []api.Expr{number(1)}, A: -1, B: -1, At: 3}
	if is {
		c.Rel = api.REq
	}
	return c
}

func number(n int) api.Expr {
	return api.Expr{Kind: api.ENum, Num: n, T: api.I32, A: -1, B: -1, At: 5}
}

func wantCondition(t *testing.T, l []api.Cond, at int, want bool) {
	t.Helper()
	if is, ub, where := Test(l, at, Env{}); is != want || ub != api.UbNone || where != 0 {
		t.Errorf("8.2: Test of %v at %d: %v, %d, %d", l, at, is, ub, where)
	}
}

func TestEachPlaceOfACondition(t *testing.T) {
	e := world("x:i32=5", "")
	l := mustCond(t, "not x == 5 or x < 6 and not x == 7")
	for at, want := range []bool{true, false, true, false, true, true, true} {
		if is, ub, where := Test(l, at, e); is != want || ub != api.UbNone || where != 0 {
			t.Errorf("8.2: at %d: %v, %d, %d", at, is, ub, where)
		}
	}
}

func TestConditionsThatThereAreNot(t *testing.T) {
	for _, at := range far(2) {
		wantCondition(t, nil, at, false)
		wantCondition(t, []api.Cond{}, at, false)
		wantCondition(t, []api.Cond{holds(true), holds(true)}, at, false)
		// What is not there does not hold.
		wantCondition(t, []api.Cond{holds(true), {Kind: api.CNot, A: at, B: 0}}, 1, true)
		wantCondition(t, []api.Cond{holds(true), {Kind: api.CAnd, A: at, B: 0}}, 1, false)
		wantCondition(t, []api.Cond{holds(true), {Kind: api.CAnd, A: 0, B: at}}, 1, false)
		wantCondition(t, []api.Cond{holds(true), {Kind: api.COr, A: at, B: 0}}, 1, true)
		wantCondition(t, []api.Cond{holds(false), {Kind: api.COr, A: 0, B: at}}, 1, false)
	}
	wantCondition(t, nil, 0, false)
	for _, kind := range []int{0, -1, api.COr + 1, 99, 1 << 32, 1<<32 + api.CNot} {
		wantCondition(t, []api.Cond{holds(true), {Kind: kind, Rel: api.REq, A: 0, B: 0}}, 1, false)
	}
	for _, rel := range []int{0, -1, api.RGe + 1, 99, 1<<32 + api.REq} {
		wantCondition(t, []api.Cond{{Kind: api.CRel, Rel: rel, X: []api.Expr{number(1)}, Y: []api.Expr{number(1)}, A: -1, B: -1}}, 0, false)
	}
}

// TestRelationsWithoutNodes: what is not there is 0, of type I32.
func TestRelationsWithoutNodes(t *testing.T) {
	u32 := []api.Expr{{Kind: api.ENum, Num: 4294967295, T: api.U32, A: -1, B: -1}}
	minus := []api.Expr{{Kind: api.ENum, Num: -1, T: api.I8, A: -1, B: -1}}
	wantRel := func(rel int, x, y []api.Expr, want bool) {
		t.Helper()
		wantCondition(t, []api.Cond{{Kind: api.CRel, Rel: rel, X: x, Y: y, A: -1, B: -1}}, 0, want)
	}
	for _, none := range [][]api.Expr{nil, {}} {
		wantRel(api.REq, none, none, true)
		wantRel(api.RLt, none, none, false)
		wantRel(api.REq, none, []api.Expr{number(0)}, true)
		wantRel(api.REq, []api.Expr{number(0)}, none, true)
		wantRel(api.RLt, none, []api.Expr{number(1)}, true)
		wantRel(api.RGt, none, minus, true)
		wantRel(api.RLt, minus, none, true)
		wantRel(api.RLt, none, u32, true)
		wantRel(api.RGt, u32, none, true)
	}
	div := mustExpr(t, "1 / 0")
	for _, c := range []api.Cond{{Kind: api.CRel, Rel: api.REq, X: div}, {Kind: api.CRel, Rel: api.REq, Y: div}, {Kind: api.CRel, Rel: 99, Y: div}} {
		if is, ub, where := Test([]api.Cond{c}, 0, Env{}); is || ub != api.UbDiv || where != 2 {
			t.Errorf("8.2: Test of %v: %v, %d, %d", c, is, ub, where)
		}
	}
}

// TestTheRootIsTheLastNode: a relation's X and Y are asked at their last nodes.
func TestTheRootIsTheLastNode(t *testing.T) {
	x := []api.Expr{number(7), number(8), number(9)}
	wantCondition(t, []api.Cond{{Kind: api.CRel, Rel: api.REq, X: x, Y: []api.Expr{number(9)}}}, 0, true)
	wantCondition(t, []api.Cond{{Kind: api.CRel, Rel: api.REq, X: []api.Expr{number(9)}, Y: x}}, 0, true)
	wantCondition(t, []api.Cond{{Kind: api.CRel, Rel: api.REq, X: x, Y: []api.Expr{number(7)}}}, 0, false)
}

// TestResultWithoutAType: held against others it counts as I32, as operands do.
func TestResultWithoutAType(t *testing.T) {
	e := Env{Mem: memory.New(), Result: 5}
	wantTests(t, e, []row{{"result == 5", "true"}, {"result == 5u", "true"}, {"result < - 1", "false"}, {"- 1 < result", "true"}})
}
