package lower

import (
	"testing"

	"calliper/api"
)

func num(n int) []api.Expr {
	return []api.Expr{{Kind: api.ENum, Num: n, T: api.I32, A: -1, B: -1, At: n}}
}

func rel(at, n int) api.Cond {
	return api.Cond{Kind: api.CRel, Rel: api.RLe, X: num(n), Y: num(n + 1), A: -1, B: -1, At: at}
}

// crowded is a statement in which each field has a value, also those that its kind has not.
func crowded(kind, at int) api.Stmt {
	return api.Stmt{
		Kind: kind, At: at, Name: "x", T: api.U16, Size: 3, X: num(1), E: num(2), Has: true, To: "g", Args: [][]api.Expr{num(3), nil, num(4)},
		C: []api.Cond{rel(5, 6), {Kind: api.CNot, A: 0, B: -1, At: 7}}, Inv: []api.Clause{{At: 8, C: []api.Cond{rel(9, 10)}}}, Names: []string{"y", "z"},
		Body: []api.Stmt{{Kind: api.SBreak, At: 11}}, Else: []api.Stmt{{Kind: api.SContinue, At: 12}},
	}
}

// TestStatementsOfInstructions: S has all that the statement has, but for what an instruction's statement has not.
func TestStatementsOfInstructions(t *testing.T) {
	for _, kind := range []int{api.SLet, api.SArray, api.SSet, api.SElem, api.SCall, api.SReturn, api.SAssert, api.SInput} {
		want := crowded(kind, 20)
		want.Inv, want.Names, want.Body, want.Else = nil, nil, nil, nil
		next := 0
		switch kind {
		case api.SAssert:
		case api.SReturn:
			next = -1
			fallthrough
		default:
			want.C = nil
		}
		l, entry := Lower(api.Func{Body: []api.Stmt{crowded(kind, 20), {Kind: api.SInput, At: 30, Name: "w"}}})
		all := []api.Instr{{Kind: api.IDo, At: 30, S: api.Stmt{Kind: api.SInput, At: 30, Name: "w"}, Next: -1, Else: -1}, {Kind: api.IDo, At: 20, S: want, Next: next, Else: -1}}
		if !alike(l, all) || entry != 1 {
			t.Errorf("11.1: kind %d tells\n%+v,\nwant\n%+v", kind, l, all)
		}
		without := crowded(kind, 20)
		without.Has = false
		if l, _ := Lower(api.Func{Body: []api.Stmt{without}}); len(l) != 1 || l[0].S.Has {
			t.Errorf("11.1: kind %d without Has: %+v", kind, l)
		}
	}
}

// TestEachField of an instruction: of what an if and a while make, and nothing of what they have beside it.
func TestEachField(t *testing.T) {
	l, entry := Lower(api.Func{Name: "f", At: 1, T: api.I8, Names: []string{"x"}, Body: []api.Stmt{crowded(api.SIf, 20)}})
	want := []api.Instr{{Kind: api.IIf, At: 5, Rel: api.RLe, X: num(6), Y: num(7), Next: -1, Else: -1}}
	if !alike(l, want) || entry != 0 {
		t.Errorf("11.1: an if tells\n%+v,\nwant\n%+v", l, want)
	}
	l, entry = Lower(api.Func{Body: []api.Stmt{crowded(api.SWhile, 20), {Kind: api.SInput, At: 30, Name: "w"}}})
	want = []api.Instr{
		{Kind: api.IDo, At: 30, S: api.Stmt{Kind: api.SInput, At: 30, Name: "w"}, Next: -1, Else: -1},
		{Kind: api.IHead, At: 20, Next: 3, Else: -1},
		{Kind: api.IIf, At: 5, Rel: api.RLe, X: num(6), Y: num(7), Next: 0, Else: 0},
		{Kind: api.IInv, At: 8, Clause: api.Clause{At: 8, C: []api.Cond{rel(9, 10)}}, Next: 2, Else: -1},
	}
	if !alike(l, want) || entry != 1 {
		t.Errorf("11.1: a while tells\n%+v,\nwant\n%+v", l, want)
	}
}

// TestRelations: each of them as it stands, also one that is none.
func TestRelations(t *testing.T) {
	for _, r := range []int{api.REq, api.RNe, api.RLt, api.RLe, api.RGt, api.RGe, 0, -1, 99} {
		c := rel(5, 6)
		c.Rel = r
		l, _ := Lower(api.Func{Body: []api.Stmt{{Kind: api.SIf, C: []api.Cond{c}}}})
		if want := []api.Instr{{Kind: api.IIf, At: 5, Rel: r, X: num(6), Y: num(7), Next: -1, Else: -1}}; !alike(l, want) {
			t.Errorf("11.1: relation %d tells\n%+v,\nwant\n%+v", r, l, want)
		}
	}
}

// TestContractsAreNoInstructions: what a function requires and ensures is not of its body.
func TestContractsAreNoInstructions(t *testing.T) {
	l, entry := Lower(mustFunc(t, "fn f ( x : i8 ) : i8 requires x < 1 ; ensures result > x and x < 2 ; assigns y ; { return 1 ; }"))
	if len(l) != 1 || entry != 0 || l[0].Kind != api.IDo {
		t.Errorf("11.1: %s", text(l, entry, nil))
	}
}
