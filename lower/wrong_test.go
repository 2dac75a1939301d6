package lower

import (
	"testing"

	"calliper/api"
)

// lowered: an if of these nodes, with a place for yes (1) and one for no (0).
func lowered(l []api.Cond) string {
	is, entry := Lower(api.Func{Body: []api.Stmt{{Kind: api.SIf, C: l, Body: []api.Stmt{{Kind: api.SInput, At: 1}}, Else: []api.Stmt{{Kind: api.SInput, At: 2}}}}})
	return text(is, entry, nil)
}

func wantCond(t *testing.T, l []api.Cond, want string) {
	t.Helper()
	const ahead = "0 input@2 > end; 1 input@1 > end; "
	if got := lowered(l); got != ahead+want {
		t.Errorf("11.1: %+v tells\n%s, want\n%s", l, got, ahead+want)
	}
}

// TestConditionsThatThereAreNot: what is not there does not hold.
func TestConditionsThatThereAreNot(t *testing.T) {
	wantCond(t, nil, "from 0")
	wantCond(t, []api.Cond{}, "from 0")
	for _, none := range append(far(2), 1) {
		wantCond(t, []api.Cond{rel(5, 6), {Kind: api.CNot, A: none, B: 0}}, "from 1")
		wantCond(t, []api.Cond{rel(5, 6), {Kind: api.CAnd, A: none, B: 0}}, "2 if@5 6<=7 > 1|0; from 0")
		wantCond(t, []api.Cond{rel(5, 6), {Kind: api.CAnd, A: 0, B: none}}, "2 if@5 6<=7 > 0|0; from 2")
		wantCond(t, []api.Cond{rel(5, 6), {Kind: api.COr, A: none, B: 0}}, "2 if@5 6<=7 > 1|0; from 2")
		wantCond(t, []api.Cond{rel(5, 6), {Kind: api.COr, A: 0, B: none}}, "2 if@5 6<=7 > 1|0; from 2")
		wantCond(t, []api.Cond{rel(5, 6), {Kind: api.CAnd, A: none, B: none}}, "from 0")
		wantCond(t, []api.Cond{rel(5, 6), {Kind: api.COr, A: none, B: none}}, "from 0")
	}
	for _, kind := range []int{0, -1, api.COr + 1, 99, 1 << 32, 1<<32 + api.CNot} {
		wantCond(t, []api.Cond{rel(5, 6), {Kind: kind, Rel: api.REq, X: num(1), Y: num(1), A: 0, B: 0}}, "from 0")
		wantCond(t, []api.Cond{{Kind: kind}, {Kind: api.CNot, A: 0, B: -1}}, "from 1")
	}
	// A loop whose condition there is not is left at once.
	l, entry := Lower(api.Func{Body: []api.Stmt{{Kind: api.SWhile, At: 3, Body: []api.Stmt{{Kind: api.SInput, At: 4}}}, {Kind: api.SInput, At: 5}}})
	if got := text(l, entry, nil); got != "0 input@5 > end; 1 head@3 > 0; 2 input@4 > 1; from 1" {
		t.Errorf("11.1: a while without a condition tells %s", got)
	}
}

// TestNodesBesideTheRoot: only what hangs on the last node counts.
func TestNodesBesideTheRoot(t *testing.T) {
	wantCond(t, []api.Cond{rel(5, 6), rel(7, 8)}, "2 if@7 8<=9 > 1|0; from 2")
	wantCond(t, []api.Cond{rel(5, 6), rel(7, 8), {Kind: api.CNot, A: 0, B: 1}}, "2 if@5 6<=7 > 0|1; from 2")
	wantCond(t, []api.Cond{rel(5, 6), {Kind: api.CRel, Rel: api.REq, X: num(1), Y: num(2), A: 0, B: 0, At: 9}}, "2 if@9 1==2 > 1|0; from 2")
	wantCond(t, []api.Cond{rel(5, 6), rel(7, 8), {Kind: api.CAnd, A: 1, B: 0}}, "2 if@5 6<=7 > 1|0; 3 if@7 8<=9 > 2|0; from 3")
	// A relation without sides.
	l, _ := Lower(api.Func{Body: []api.Stmt{{Kind: api.SIf, C: []api.Cond{{Kind: api.CRel}}}}})
	if !alike(l, []api.Instr{{Kind: api.IIf, Next: -1, Else: -1}}) {
		t.Errorf("11.1: a relation without sides tells %+v", l)
	}
}

// TestKidsThatAKindHasNot: they are no parents' kids, however many ways there would be.
func TestKidsThatAKindHasNot(t *testing.T) {
	l := []api.Cond{rel(5, 6)}
	for i := range 100 {
		c := rel(7+i, 8)
		c.A, c.B = i, i
		l = append(l, c)
	}
	wantCond(t, l, "2 if@106 8<=9 > 1|0; from 2")
	l = append(l, api.Cond{Kind: api.CNot, A: 100, B: 100})
	for i := range 100 {
		l = append(l, api.Cond{Kind: api.CNot, A: 101 + i, B: 101 + i})
	}
	wantCond(t, l, "2 if@106 8<=9 > 0|1; from 2")
}

// TestLongConditions: they stand there whole, each of them.
func TestLongConditions(t *testing.T) {
	const n = 100_000
	l := []api.Cond{rel(0, 6)}
	for i := 1; i < n; i++ {
		l = append(l, rel(i, 6), api.Cond{Kind: api.CAnd + i%2, A: len(l) - 1, B: len(l)})
	}
	is, entry := Lower(api.Func{Body: []api.Stmt{{Kind: api.SIf, C: l}, {Kind: api.SWhile, C: l}}})
	if len(is) != 2*n+1 || entry != 2*n {
		t.Errorf("11.3: %d instructions, entry %d", len(is), entry)
	}
	for at, i := range is[1 : n+1] {
		if i.At != n-1-at {
			t.Fatalf("11.1: at %d stands %d", at, i.At)
		}
	}
}

// TestDeepConditions: as deep as they are long, to the left, to the right, and of one kid.
func TestDeepConditions(t *testing.T) {
	const n = 1 << 18
	none, left, right := []api.Cond{rel(5, 6)}, []api.Cond{rel(5, 6)}, []api.Cond{rel(5, 6)}
	for i := range n {
		none = append(none, api.Cond{Kind: api.CNot, A: i, B: -1})
		left = append(left, api.Cond{Kind: api.CAnd, A: i, B: -1})
		right = append(right, api.Cond{Kind: api.COr, A: -1, B: i})
	}
	wantCond(t, none, "2 if@5 6<=7 > 1|0; from 2")
	wantCond(t, none[:n], "2 if@5 6<=7 > 0|1; from 2")
	wantCond(t, left, "2 if@5 6<=7 > 0|0; from 2")
	wantCond(t, right, "2 if@5 6<=7 > 1|0; from 2")
}

// TestStatementsOfNoKind: they are put as others are.
func TestStatementsOfNoKind(t *testing.T) {
	for _, kind := range []int{0, -1, api.SInput + 1, 99, 1<<32 + api.SBreak, -1 << 62} {
		want := crowded(kind, 20)
		want.C, want.Inv, want.Names, want.Body, want.Else = nil, nil, nil, nil, nil
		l, entry := Lower(api.Func{Body: []api.Stmt{crowded(kind, 20), {Kind: api.SInput, At: 3}}})
		if len(l) != 2 || entry != 1 || !alike(l[1], api.Instr{Kind: api.IDo, At: 20, S: want, Next: 0, Else: -1}) {
			t.Errorf("11.1: a statement of kind %d tells %+v", kind, l)
		}
	}
}

// TestDeepStatements: one within the other, as deep as may be.
func TestDeepStatements(t *testing.T) {
	const n = 1<<16 - 10
	for _, in := range []func(l []api.Stmt) api.Stmt{
		func(l []api.Stmt) api.Stmt { return api.Stmt{Kind: api.SIf, C: []api.Cond{rel(5, 6)}, Body: l} },
		func(l []api.Stmt) api.Stmt { return api.Stmt{Kind: api.SIf, C: []api.Cond{rel(5, 6)}, Else: l} },
		func(l []api.Stmt) api.Stmt { return api.Stmt{Kind: api.SWhile, Body: l} },
	} {
		var body []api.Stmt
		for range n {
			body = []api.Stmt{in(body)}
		}
		if l, _ := Lower(api.Func{Body: body}); len(l) != n {
			t.Errorf("R1: %d instructions of %d statements within one another", len(l), n)
		}
	}
}

func TestLongBodies(t *testing.T) {
	body := make([]api.Stmt, 1<<17)
	for i := range body {
		body[i] = api.Stmt{Kind: api.SInput, At: i}
	}
	l, entry := Lower(api.Func{Body: body})
	if len(l) != len(body) || entry != len(body)-1 || l[entry].At != 0 || l[entry].Next != entry-1 || l[0].Next != -1 {
		t.Errorf("11.1: %d instructions, entry %d", len(l), entry)
	}
}
