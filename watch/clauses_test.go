package watch

import (
	"math"
	"reflect"
	"slices"
	"testing"

	"calliper/api"
	"calliper/eval"
)

func TestNoClauses(t *testing.T) {
	for _, l := range [][]api.Clause{nil, {}} {
		for _, e := range []eval.Env{{}, env()} {
			if events, ok := Clauses(l, api.KAssert, e); len(events) != 0 || !ok {
				t.Errorf("9.1: Clauses of %v: %v, %v", l, events, ok)
			}
		}
	}
}

func TestClausesByHand(t *testing.T) {
	for _, c := range []struct {
		srcs []string
		want []int
	}{
		{[]string{"x == 5"}, []int{1}},
		{[]string{"x == 6"}, []int{0}},
		{[]string{"x == 5", "x < 6", "a[2] == 3", "not x == 0"}, []int{1, 1, 1, 1}},
		{[]string{"x == 6", "x == 5", "x == 5"}, []int{0}},
		{[]string{"x == 5", "x == 6", "x == 5"}, []int{1, 0}},
		{[]string{"x == 5", "x == 5", "x == 6"}, []int{1, 1, 0}},
		{[]string{"x == 6", "x == 6", "x == 6"}, []int{0}},
		// One that stands there twice is looked at twice.
		{[]string{"x == 5", "x == 5", "x == 5"}, []int{1, 1, 1}},
		// What was, and what the result is.
		{[]string{"old(x) == 7", "x < old(x)", "old(a[0]) == 4", "a[0] == 1", "result == 9", "result == old(x) + a[1]"}, []int{1, 1, 1, 1, 1, 1}},
		{[]string{"old(x) == 5"}, []int{0}},
		{[]string{"result == 5"}, []int{0}},
		// Names that there are not have 0.
		{[]string{"nix == 0", "old(nix) == 0", "nix[3] == 0", "nix == 1"}, []int{1, 1, 1, 0}},
	} {
		for kind := api.KRequires; kind <= api.KFrame; kind++ {
			wantEvents(t, mustClauses(t, c.srcs), kind, env(), c.want)
		}
	}
}

// TestTheTypeOfTheResult: by it the result meets others.
func TestTheTypeOfTheResult(t *testing.T) {
	e := env()
	l := mustClauses(t, []string{"result - 10 < 0", "result == 9"})
	wantEvents(t, l, api.KEnsures, e, []int{1, 1})
	e.T = api.U32
	wantEvents(t, l, api.KEnsures, e, []int{0})
}

// failures are clauses that do not hold, each for another reason.
func failures() []string {
	return []string{"x == 6", none, "1 / 0 == 0", "1 % 0 == 0", "2147483647 + x == 0", "1 << 32 == 0", "a[x] == 0", "old(a[3]) == 0", "x == 5 and x / 0 == 0", "x == 6 or a[3] == 0", "not x == 5", "not 1 / 0 == 0"}
}

// TestItEndsWithTheFirstThatDoesNotHold: in lists of each length, at each place, for each reason, whatever is behind it.
func TestItEndsWithTheFirstThatDoesNotHold(t *testing.T) {
	for n := 1; n <= 5; n++ {
		for at := range n {
			for _, fails := range failures() {
				for _, behind := range append(failures(), "x == 5") {
					srcs := append(slices.Repeat([]string{"x == 5"}, at), fails)
					srcs = append(srcs, slices.Repeat([]string{behind}, n-len(srcs))...)
					wantEvents(t, mustClauses(t, srcs), api.KInvariant, env(), append(slices.Repeat([]int{1}, at), 0))
				}
			}
		}
	}
}

// TestUndefinedBehaviour: it counts as 0, and is seen only where it is come to.
func TestUndefinedBehaviour(t *testing.T) {
	for _, ub := range []string{"1 / 0", "1 % x", "2147483647 + 1", "1 << 32", "1 >> -1", "a[3]", "a[-1]", "old(1 / x)", "-2147483647 - 2"} {
		// Of x 0 each of them has some.
		e := eval.Env{Mem: mem("i32:0 u8:1,2,3")}
		e.Binds = bind(e.Mem, "x", "a")
		e.Old, e.Olds = e.Mem, e.Binds
		for src, want := range map[string]int{ub + " == 0": 0, ub + " != 0": 0, "0 == " + ub: 0, "not " + ub + " == 0": 0, "x == 0 and " + ub + " == 0": 0, "x == 1 or " + ub + " == 0": 0, ub + " == 0 or x == 0": 0, "x == 0 or " + ub + " == 0": 1, "x == 1 and " + ub + " == 0": 0, "not [ x == 1 and " + ub + " == 0 ]": 1} {
			ns := []int{1, want}
			if want == 1 {
				ns = append(ns, 1)
			}
			wantEvents(t, mustClauses(t, []string{"x == 0", src, "x == 0"}), api.KEnsures, e, ns)
		}
	}
}

// TestClausesWithoutACondition: what is not there does not hold.
func TestClausesWithoutACondition(t *testing.T) {
	for _, c := range [][]api.Cond{nil, {}} {
		wantEvents(t, []api.Clause{{At: 3, C: c}}, api.KRequires, env(), []int{0})
		wantEvents(t, []api.Clause{{At: 3, C: c}}, api.KRequires, eval.Env{}, []int{0})
		wantEvents(t, []api.Clause{{At: 8, C: mustCond(t, "x == 5")}, {At: 4, C: c}, {At: 5, C: mustCond(t, "x == 5")}}, api.KRequires, env(), []int{1, 0})
	}
}

// TestTheLastNodeCounts: not the first, and not all of them.
func TestTheLastNodeCounts(t *testing.T) {
	yes, no := mustCond(t, "x == 5")[0], mustCond(t, "x == 6")[0]
	div := mustCond(t, "1 / 0 == 0")[0]
	for _, c := range []struct {
		l    []api.Cond
		want int
	}{
		{[]api.Cond{yes, no}, 0}, {[]api.Cond{no, yes}, 1}, {[]api.Cond{div, yes}, 1}, {[]api.Cond{yes, div}, 0}, {[]api.Cond{no, no, yes}, 1}, {[]api.Cond{yes, yes, no}, 0}, {[]api.Cond{yes, no, yes}, 1},
		{[]api.Cond{no, {Kind: api.CNot, A: 0}}, 1}, {[]api.Cond{yes, {Kind: api.CNot, A: 0}}, 0}, {[]api.Cond{yes, no, {Kind: api.COr, A: 0, B: 1}}, 1}, {[]api.Cond{yes, no, {Kind: api.CAnd, A: 0, B: 1}}, 0},
	} {
		wantEvents(t, []api.Clause{{At: 2, C: c.l}}, api.KAssert, env(), []int{c.want})
	}
}

// TestAnyPlaceAndKind: both are told as they are, whatever they are; a clause's place is its own, not one of its nodes.
func TestAnyPlaceAndKind(t *testing.T) {
	numbers := append(far(), 0, 1, 2, 3, 4, 5, 6, 7, 99)
	for i, at := range numbers {
		for _, kind := range numbers {
			l := []api.Clause{{At: at, C: mustCond(t, "x == 5")}, {At: numbers[len(numbers)-1-i], C: mustCond(t, "  x == 6")}}
			wantEvents(t, l, kind, env(), []int{1, 0})
		}
	}
}

// TestConditionsThatAreNoTrees: a call ends, and each clause has its event.
func TestConditionsThatAreNoTrees(t *testing.T) {
	for _, place := range append(far(), 0, 1, 2) {
		for kind := range api.COr + 2 {
			for _, e := range []eval.Env{{}, env(), {Mem: mem("u8:1"), Binds: []api.Bind{{Name: "x", T: 9, Size: place, Id: place}}, Result: math.MinInt, T: place}} {
				c := []api.Cond{{Kind: kind, Rel: place, A: place, B: place}, {Kind: kind, A: 0, B: 1}}
				events, ok := Clauses([]api.Clause{{At: 1, C: c}}, place, e)
				if len(events) != 1 || (events[0].N == 1) != ok || events[0].N>>1 != 0 {
					t.Errorf("9.1: Clauses of %v: %v, %v", c, events, ok)
				}
			}
		}
	}
}

// TestManyClauses: as many events as clauses.
func TestManyClauses(t *testing.T) {
	c, ns := mustCond(t, "x == 5"), []int{}
	var l []api.Clause
	for i := range 30000 {
		l = append(l, api.Clause{At: i, C: c})
		ns = append(ns, 1)
	}
	wantEvents(t, l, api.KEnsures, env(), ns)
	l[20000].C = mustCond(t, "x == 6")
	wantEvents(t, l, api.KEnsures, env(), append(ns[:20000], 0))
}

// TestEventsMayBeSpoilt: what is told is new, spare room too.
func TestEventsMayBeSpoilt(t *testing.T) {
	for n := range 12 {
		var srcs []string
		for range n {
			srcs = append(srcs, "x == 5 and a[1] == 2")
		}
		e, l := env(), mustClauses(t, append(srcs, "x == 6", "x == 5"))
		whole, has := cloneClauses(l), blocks(e.Mem)
		first, _ := Clauses(l, api.KAssert, e)
		second, _ := Clauses(l, api.KAssert, e)
		kept := slices.Clone(second)
		spoil(first)
		if !reflect.DeepEqual(second, kept) || !reflect.DeepEqual(l, whole) || !reflect.DeepEqual(blocks(e.Mem), has) {
			t.Errorf("R3: of %d clauses: %v, %v", n, second, l)
		}
		wantEvents(t, l, api.KAssert, e, append(slices.Repeat([]int{1}, n), 0))
	}
}

// spoil writes over a list that was told, and what spare room it has.
func spoil(l []api.Event) {
	bad := api.Event{Kind: 77, At: 77, K: 77, Name: "bad", N: 77, Vals: []int{77}}
	for _, l := range [][]api.Event{l[:cap(l)], append(l, bad), append(l[:0], bad)} {
		for i := range l {
			l[i] = bad
			l[i].Vals = append(l[i].Vals, 77)
		}
	}
}

// TestClausesGoByWhatIs: nothing is kept from call to call.
func TestClausesGoByWhatIs(t *testing.T) {
	e, l := env(), mustClauses(t, []string{"x == 5", "old(x) == 7"})
	wantEvents(t, l, api.KAssert, e, []int{1, 1})
	e.Mem.Set(0, 0, 6)
	wantEvents(t, l, api.KAssert, e, []int{0})
	e.Mem.Set(0, 0, 5)
	e.Old.Set(1, 0, 8)
	wantEvents(t, l, api.KAssert, e, []int{1, 0})
	e.Old.Set(1, 0, 7)
	wantEvents(t, l, api.KAssert, e, []int{1, 1})
	l[0].C = mustCond(t, "x == 4")
	wantEvents(t, l, api.KAssert, e, []int{0})
}

// TestClausesAgainstASecondLook: lists thrown together, each clause's Test asked on its own.
func TestClausesAgainstASecondLook(t *testing.T) {
	d := dice(3)
	atoms := append(failures(), "x == 5", "a[1] == 2", "old(x) == 7", "result == 9", "not x == 6", "x == 5 or 1 / 0 == 0", "x < a[x - 3] + 9", "u8(x + 255) == 4")
	for range 3000 {
		var srcs []string
		for range d.roll(8) {
			srcs = append(srcs, pick(&d, append(atoms, slices.Repeat(atoms[len(atoms)-8:], 4)...)...))
		}
		e, l := env(), mustClauses(t, srcs)
		e.Result = pick(&d, 9, 9, 8)
		var ns []int
		for i := 0; i < len(l) && !slices.Contains(ns, 0); i++ {
			n := 0
			if is, ub, _ := eval.Test(l[i].C, len(l[i].C)-1, e); is && ub == api.UbNone {
				n = 1
			}
			ns = append(ns, n)
		}
		binds, has, olds, had, whole := slices.Clone(e.Binds), blocks(e.Mem), slices.Clone(e.Olds), blocks(e.Old), cloneClauses(l)
		wantEvents(t, l, api.KRequires, e, ns)
		wantEvents(t, l, api.KEnsures, e, ns)
		if !reflect.DeepEqual(l, whole) || !reflect.DeepEqual(binds, e.Binds) || !reflect.DeepEqual(olds, e.Olds) || !reflect.DeepEqual(has, blocks(e.Mem)) || !reflect.DeepEqual(had, blocks(e.Old)) {
			t.Fatalf("R3: what is handed in was changed: %v, %v", l, e)
		}
	}
}
