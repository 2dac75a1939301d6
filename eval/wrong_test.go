package eval

import (
	"math"
	"testing"

	"calliper/api"
)

// far are places that there are not in a list of n: below 0, just behind its end, far out, and some with lower bits that are places.
func far(n int) []int {
	return []int{-1, -2, -n, -n - 1, n, n + 1, 99, 1 << 31, 1 << 32, 1<<32 + 1, -1 << 32, math.MaxInt, math.MinInt, math.MinInt + 1}
}

func TestPlacesThatThereAreNot(t *testing.T) {
	e := world("x:u8=5", "x:u8=6")
	e.Result, e.T = 9, api.U8
	l := mustExpr(t, "x + 7u")
	for _, at := range far(len(l)) {
		wantNode(t, l, at, e, "0 i32", 0)
		wantNode(t, nil, at, e, "0 i32", 0)
		wantNode(t, []api.Expr{}, at, e, "0 i32", 0)
	}
	wantNode(t, nil, 0, e, "0 i32", 0)
	wantNode(t, []api.Expr{}, 0, Env{}, "0 i32", 0)
}

func TestNodesOfNoKind(t *testing.T) {
	e := world("x:u8=5", "")
	for _, kind := range []int{0, -1, -api.EVar, api.ECast + 1, 40, 99, 256 + api.ENum, 1<<32 + api.ENum, math.MaxInt, math.MinInt} {
		none := api.Expr{Kind: kind, Num: 4, T: api.U32, Name: "x", A: -1, B: -1, At: 8}
		wantNode(t, []api.Expr{none}, 0, e, "0 i32", 0)
		// So it is for a parent.
		wantNode(t, []api.Expr{none, {Kind: api.EOld, A: 0, B: -1}}, 1, e, "0 i32", 0)
		wantNode(t, []api.Expr{none, {Kind: api.ECom, A: 0, B: -1}}, 1, e, "-1 i32", 0)
		wantNode(t, []api.Expr{none, {Kind: api.ECast, T: api.U8, A: 0, B: -1}}, 1, e, "0 u8", 0)
		wantNode(t, []api.Expr{none, {Kind: api.EElem, Name: "x", A: 0, B: -1}}, 1, e, "5 u8", 0)
	}
}

// TestKidsThatThereAreNot: they count as 0, of type I32.
func TestKidsThatThereAreNot(t *testing.T) {
	e := world("x:u8=5", "x:u8=6")
	u32 := api.Expr{Kind: api.ENum, Num: 3, T: api.U32, A: -1, B: -1}
	for _, none := range far(2) {
		for _, c := range []struct {
			kind, a, b int
			want       string
			where      int
		}{
			{api.EElem, none, none, "5 u8", 0}, {api.EOld, none, none, "0 i32", 0}, {api.ENeg, none, none, "0 i32", 0}, {api.ECom, none, 0, "-1 i32", 0}, {api.ENeg, 0, none, "4294967293 u32", 0},
			{api.EAdd, none, none, "0 i32", 0}, {api.EAdd, 0, none, "3 u32", 0}, {api.ESub, none, 0, "4294967293 u32", 0}, {api.EMul, 0, none, "0 u32", 0}, {api.EDiv, 0, none, "0 u32 div", 9}, {api.EMod, none, none, "0 i32 div", 9}, {api.EDiv, none, 0, "0 u32", 0},
			{api.EAnd, 0, none, "0 u32", 0}, {api.EOr, none, 0, "3 u32", 0}, {api.EXor, none, none, "0 i32", 0}, {api.EShl, 0, none, "3 u32", 0}, {api.EShr, none, 0, "0 i32", 0}, {api.ECast, none, none, "0 i16", 0},
		} {
			wantNode(t, []api.Expr{u32, {Kind: c.kind, T: api.I16, Name: "x", A: c.a, B: c.b, At: 9}}, 1, e, c.want, c.where)
		}
	}
}

// TestKidsThatAKindHasNot: only the kids of its kind count.
func TestKidsThatAKindHasNot(t *testing.T) {
	e := world("x:u8=5", "x:u8=6")
	e.Result, e.T = 9, api.I16
	div := mustExpr(t, "1 / 0")
	for _, c := range []struct {
		n    api.Expr
		want string
	}{
		{api.Expr{Kind: api.ENum, Num: 7, T: api.I32, A: 2, B: 2}, "7 i32"}, {api.Expr{Kind: api.EVar, Name: "x", A: 2, B: 2}, "5 u8"}, {api.Expr{Kind: api.EResult, A: 2, B: 2}, "9 i16"},
		{api.Expr{Kind: api.EElem, Name: "x", A: -1, B: 2}, "5 u8"}, {api.Expr{Kind: api.EOld, A: 0, B: 2}, "1 i32"}, {api.Expr{Kind: api.ENeg, A: 0, B: 2}, "-1 i32"}, {api.Expr{Kind: api.ECom, A: 0, B: 2}, "-2 i32"}, {api.Expr{Kind: api.ECast, T: api.U8, A: 0, B: 2}, "1 u8"},
	} {
		wantNode(t, append(div[:3:3], c.n), 3, e, c.want, 0)
	}
}

func TestTypesThatThereAreNot(t *testing.T) {
	for _, ty := range []int{-1, 7, 99, 256 + api.U8, math.MinInt} {
		for kind := range api.ECast + 2 {
			l := []api.Expr{{Kind: api.ENum, Num: 3, T: ty, A: -1, B: -1}, {Kind: kind, Num: 1, T: ty, Name: "x", A: 0, B: 0}}
			Value(l, 1, Env{Binds: []api.Bind{{Name: "x", T: ty, Size: -1, Id: -1}}, Result: math.MinInt, T: ty})
			Test([]api.Cond{{Kind: api.CRel, Rel: api.REq, X: l, Y: l}}, 0, Env{})
		}
		wantNode(t, []api.Expr{number(3), {Kind: api.ECast, T: ty, A: 0, B: -1}, {Kind: api.ECast, T: api.U8, A: 1, B: -1}}, 2, Env{}, "0 u8", 0)
	}
}

// TestListsThatAreNoTrees: a call ends, and soon, whatever kids a list names.
func TestListsThatAreNoTrees(t *testing.T) {
	e := world("x:u8=5 a:i8[2]=1,0", "x:u8=6")
	for kind := range api.ECast + 2 {
		for _, l := range [][]api.Expr{
			{{Kind: kind, Name: "a"}},
			{{Kind: kind, Name: "a", A: 1, B: 1}, {Kind: kind, Name: "a"}},
			{{Kind: kind, Name: "a", A: 1, B: 2}, {Kind: api.EOld, A: 2}, {Kind: kind, Name: "a", A: 1}},
		} {
			for at := range l {
				Value(l, at, e)
			}
		}
	}
	for kind := range api.COr + 2 {
		for _, l := range [][]api.Cond{{{Kind: kind}}, {{Kind: kind, A: 1, B: 1}, {Kind: kind}}, {{Kind: kind, A: 1, B: 2}, {Kind: api.CNot, A: 2}, {Kind: kind, A: 1}}} {
			for at := range l {
				Test(l, at, e)
			}
		}
	}
	// A node that is its own kid counts there as one that there is not.
	wantNode(t, []api.Expr{{Kind: api.EOld, A: 0}}, 0, e, "0 i32", 0)
	wantNode(t, []api.Expr{{Kind: api.ECom, A: 0}}, 0, e, "-1 i32", 0)
	wantCondition(t, []api.Cond{{Kind: api.CNot, A: 0}}, 0, true)
	// Kids behind their parent.
	wantNode(t, []api.Expr{{Kind: api.ESub, A: 1, B: 2}, {Kind: api.EOld, A: 3}, {Kind: api.EVar, Name: "x"}, {Kind: api.EVar, Name: "x"}}, 0, e, "1 i32", 0)
	wantCondition(t, []api.Cond{{Kind: api.CAnd, A: 1, B: 2}, {Kind: api.CNot, A: 3}, holds(true), holds(false)}, 0, true)
}

// TestKidsOfSeveralParents: as many ways to the first node as 2 to 60.
func TestKidsOfSeveralParents(t *testing.T) {
	e := world("x:u8=1", "x:u8=3")
	shared := []api.Expr{{Kind: api.EVar, Name: "x", A: -1, B: -1}, {Kind: api.ECast, T: api.U32, A: 0, B: -1}}
	conds := []api.Cond{holds(true)}
	for i := range 60 {
		shared = append(shared, api.Expr{Kind: api.EAdd, A: i + 1, B: i + 1})
		conds = append(conds, api.Cond{Kind: api.CAnd, A: i, B: i})
	}
	wantNode(t, shared, 20, e, "524288 u32", 0)
	wantNode(t, shared, 61, e, "0 u32", 0)
	wantCondition(t, conds, 60, true)
	// A node that one parent has in an `old`, and the other one not, has two values.
	wantNode(t, []api.Expr{{Kind: api.EVar, Name: "x"}, {Kind: api.EOld, A: 0}, {Kind: api.ESub, A: 0, B: 1}}, 2, e, "-2 i32", 0)
	wantNode(t, []api.Expr{{Kind: api.EVar, Name: "x"}, {Kind: api.EOld, A: 0}, {Kind: api.ESub, A: 1, B: 0}}, 2, e, "2 i32", 0)
}

// TestDeepLists: as deep as they are long.
func TestDeepLists(t *testing.T) {
	e := world("x:i8=5", "x:i8=6")
	const n = 1 << 20
	sums := []api.Expr{{Kind: api.EVar, Name: "x", A: -1, B: -1}}
	olds, conds := sums[:1:1], []api.Cond{holds(true)}
	for i := range n {
		sums = append(sums, api.Expr{Kind: api.ECom, A: i, B: -1})
		olds = append(olds, api.Expr{Kind: api.EOld, A: i, B: -1})
		conds = append(conds, api.Cond{Kind: api.CNot, A: i, B: -1})
	}
	wantNode(t, sums, n, e, "5 i32", 0)
	wantNode(t, sums, n-1, e, "-6 i32", 0)
	wantNode(t, olds, n, e, "6 i8", 0)
	wantCondition(t, conds, n, true)
	wantCondition(t, conds, n-1, false)
}
