package show

import (
	"fmt"
	"slices"
	"strings"
	"testing"

	"calliper/api"
)

// sized is a program whose text is of n bytes: as many short statements as there are, and one with longer names.
func sized(t *testing.T, n int) api.Program {
	t.Helper()
	const head, tail = "fn f ( ) { ", "}"
	const short = "input x ; "
	left := n - len(head) - len(tail)
	s := ""
	for left >= 2*len(short) {
		s += short
		left -= len(short)
	}
	// From one to twice as long as a short one.
	s += "input " + strings.Repeat("y", 1+left-len(short)) + " ; "
	p := mustProgram(t, squeezed(head+s+tail))
	if len(head+s+tail) != n {
		t.Fatalf("a text of %d bytes, not of %d", len(head+s+tail), n)
	}
	return p
}

func TestTextsAsLongAsMayBe(t *testing.T) {
	for n := api.MaxText - 12; n <= api.MaxText; n++ {
		s, e := Print(sized(t, n))
		if e != api.OK || len(s) != n {
			t.Fatalf("4.2: Print of %d bytes: error %d, %d bytes", n, e, len(s))
		}
		if !Same(mustProgram(t, s), sized(t, n)) {
			t.Errorf("4.3: %d bytes are not parsed as the same", n)
		}
	}
	for n := api.MaxText + 1; n < api.MaxText+25; n++ {
		wantError(t, fmt.Sprintf("%d bytes", n), sized(t, n), api.ErrLong)
	}
}

// many is n of each kind of thing that a program may have any number of.
func many(n int) map[string]api.Program {
	stmt := api.Stmt{Kind: api.SSet, Name: "x", E: one()}
	clause := api.Clause{C: conds(isOne())}
	names := slices.Repeat([]string{"x"}, n)
	in := slices.Repeat([]api.Stmt{stmt}, n)
	return map[string]api.Program{
		"globals":    {Globals: slices.Repeat([]api.Global{{Name: "x", T: api.I8}}, n)},
		"functions":  {Funcs: slices.Repeat([]api.Func{{Name: "f"}}, n)},
		"parameters": {Funcs: []api.Func{{Name: "f", Params: slices.Repeat([]api.Param{{Name: "x", T: api.I8}}, n)}}},
		"requires":   {Funcs: []api.Func{{Name: "f", Requires: slices.Repeat([]api.Clause{clause}, n)}}},
		"ensures":    {Funcs: []api.Func{{Name: "f", Ensures: slices.Repeat([]api.Clause{clause}, n)}}},
		"names":      {Funcs: []api.Func{{Name: "f", Names: names}}},
		"statements": body(in...),
		"arguments":  body(api.Stmt{Kind: api.SCall, To: "f", Args: slices.Repeat([][]api.Expr{one()}, n)}),
		"invariants": body(api.Stmt{Kind: api.SWhile, C: clause.C, Inv: slices.Repeat([]api.Clause{clause}, n)}),
		"its names":  body(api.Stmt{Kind: api.SWhile, C: clause.C, Has: true, Names: names}),
		"its body":   body(api.Stmt{Kind: api.SWhile, C: clause.C, Body: in}),
		"then":       body(api.Stmt{Kind: api.SIf, C: clause.C, Body: in}),
		"else":       body(api.Stmt{Kind: api.SIf, C: clause.C, Else: in}),
		"expression": body(api.Stmt{Kind: api.SReturn, Has: true, E: balanced(n)}),
		"condition":  body(api.Stmt{Kind: api.SAssert, C: balancedCond(n)}),
	}
}

// balanced is a sum of n ones, no deeper than it must be.
func balanced(n int) []api.Expr {
	if n == 1 {
		return one()
	}
	l, right := balanced(n/2), balanced(n-n/2)
	from := len(l)
	for _, k := range right {
		l = append(l, shifted(k, 0, from))
	}
	return append(l, bin(api.EAdd, from-1, len(l)-1))
}

func balancedCond(n int) []api.Cond {
	l := []api.Cond{}
	for _, k := range balanced(n) {
		if k.Kind == api.EAdd {
			l = append(l, tied(api.CAnd, k.A, k.B))
		} else {
			l = append(l, isOne())
		}
	}
	return l
}

func TestFarTooLong(t *testing.T) {
	for what, p := range many(20) {
		wantOK(t, "twenty "+what, p)
	}
	for what, p := range many(20000) {
		wantError(t, "twenty thousand "+what, p, api.ErrLong)
	}
}

func TestErrArgCountsAheadOfErrLong(t *testing.T) {
	bad := api.Stmt{Kind: api.SSet, Name: "if", E: one()}
	for what, p := range many(5000) {
		wantError(t, what, p, api.ErrLong)
		last := clone(p)
		last.Funcs = append(last.Funcs, api.Func{Name: "f", Body: []api.Stmt{bad}})
		wantError(t, what+", and a wrong one behind", last, api.ErrArg)
		first := clone(p)
		first.Globals = append([]api.Global{{Name: "x"}}, first.Globals...)
		wantError(t, what+", and a wrong one ahead", first, api.ErrArg)
	}
	// What is too deep, too.
	long := many(5000)["statements"]
	long.Funcs[0].Body = append(long.Funcs[0].Body, api.Stmt{Kind: api.SReturn, Has: true, E: chain(api.EAdd, api.MaxNest+3)})
	wantError(t, "many statements, and one too deep", long, api.ErrArg)
	long.Funcs[0].Body[5000].E = chain(api.EAdd, 3)
	wantError(t, "many statements", long, api.ErrLong)
}

// chain is n ones with operators between, from the left.
func chain(kind, n int) []api.Expr {
	l := one()
	for range n - 1 {
		l = append(l, one()[0], bin(kind, len(l)-1, len(l)))
	}
	return l
}

// signs is n of an operator that has one operand, each within the last.
func signs(kind, n int) []api.Expr {
	l := exprs(name("hole"))
	for i := range n {
		l = append(l, un(kind, i))
	}
	return l
}

// wantDepth holds what a program comes to as it gets deeper: it is right as long as the text, printed, is no deeper than may be.
func wantDepth(t *testing.T, what string, make func(n int) api.Program, most int) {
	t.Helper()
	for n := most - 1; n <= most; n++ {
		wantOK(t, fmt.Sprintf("%s, %d", what, n), make(n))
	}
	for _, n := range []int{most + 1, most + 2, 2*most + 9, 300} {
		wantError(t, fmt.Sprintf("%s, %d", what, n), make(n), api.ErrArg)
	}
}

func TestExpressionsAsDeepAsMayBe(t *testing.T) {
	const left = api.MaxNest - 1 // within a function's block
	for what, c := range map[string]struct {
		make func(n int) []api.Expr
		most func(free int) int
	}{
		"a chain": {func(n int) []api.Expr { return chain(api.EMul, n+1) }, func(free int) int { return free + 1 }},
		"signs":   {func(n int) []api.Expr { return signs(api.ECom, n) }, func(free int) int { return (free + 1) / 2 }},
		"olds":    {func(n int) []api.Expr { return signs(api.EOld, n) }, func(free int) int { return free }},
		"casts": {func(n int) []api.Expr {
			l := signs(api.ECast, n)
			for i := range n {
				l[i+1].T = api.U8
			}
			return l
		}, func(free int) int { return free }},
		"indexes": {func(n int) []api.Expr {
			l := signs(api.EElem, n)
			for i := range n {
				l[i+1].Name = "a"
			}
			return l
		}, func(free int) int { return free }},
		"a sign on the left": {func(n int) []api.Expr {
			return filled(filled(signs(api.EOld, n), exprs(name("hole"), one()[0], bin(api.EAdd, 0, 1))), exprs(name("x"), un(api.ENeg, 0)))
		}, func(free int) int { return free - 2 }},
		"a sign on the right": {func(n int) []api.Expr {
			return filled(filled(signs(api.EOld, n), exprs(one()[0], name("hole"), bin(api.EAdd, 0, 1))), exprs(name("x"), un(api.ECom, 0)))
		}, func(free int) int { return free - 2 }},
		"the right of a sum": {func(n int) []api.Expr {
			l := slices.Repeat(one(), n+1)
			for i := range n {
				l = append(l, bin(api.ESub, n-1-i, len(l)-1))
			}
			return l
		}, func(free int) int { return free + 1 }},
	} {
		program := func(n int, make func(e []api.Expr) api.Program) api.Program { return make(c.make(n)) }
		in := func(s string, free int, make func(e []api.Expr) api.Program) {
			t.Helper()
			wantDepth(t, what+" in "+s, func(n int) api.Program { return program(n, make) }, c.most(free))
		}
		in("return", left, func(e []api.Expr) api.Program { return body(api.Stmt{Kind: api.SReturn, Has: true, E: e}) })
		in("let", left, func(e []api.Expr) api.Program { return body(api.Stmt{Kind: api.SLet, Name: "x", T: api.I8, E: e}) })
		in("set", left, func(e []api.Expr) api.Program { return body(api.Stmt{Kind: api.SSet, Name: "x", E: e}) })
		in("an element", left, func(e []api.Expr) api.Program { return body(api.Stmt{Kind: api.SElem, Name: "x", X: one(), E: e}) })
		in("an element's index", left-1, func(e []api.Expr) api.Program { return body(api.Stmt{Kind: api.SElem, Name: "x", X: e, E: one()}) })
		in("an argument", left, func(e []api.Expr) api.Program {
			return body(api.Stmt{Kind: api.SCall, To: "f", Args: [][]api.Expr{one(), e}})
		})
		for side, make := range map[string]func(e []api.Expr) []api.Cond{
			"left":  func(e []api.Expr) []api.Cond { return conds(rel(api.RLt, e, one())) },
			"right": func(e []api.Expr) []api.Cond { return conds(isOne(), rel(api.RLt, one(), e), tied(api.COr, 0, 1)) },
		} {
			in("assert, "+side, left, func(e []api.Expr) api.Program { return body(api.Stmt{Kind: api.SAssert, C: make(e)}) })
			in("if, "+side, left, func(e []api.Expr) api.Program { return body(api.Stmt{Kind: api.SIf, C: make(e)}) })
			in("while, "+side, left, func(e []api.Expr) api.Program { return body(api.Stmt{Kind: api.SWhile, C: make(e)}) })
			in("invariant, "+side, left, func(e []api.Expr) api.Program {
				return body(api.Stmt{Kind: api.SWhile, C: conds(isOne()), Inv: []api.Clause{{C: make(e)}}})
			})
			// No block is open there.
			in("requires, "+side, api.MaxNest, func(e []api.Expr) api.Program {
				return api.Program{Funcs: []api.Func{{Name: "f", Requires: []api.Clause{{C: make(e)}}}}}
			})
			in("ensures, "+side, api.MaxNest, func(e []api.Expr) api.Program {
				return api.Program{Funcs: []api.Func{{Name: "f", Ensures: []api.Clause{{C: make(e)}}}}}
			})
		}
	}
}

func TestConditionsAsDeepAsMayBe(t *testing.T) {
	chained := func(kind int) func(n int) []api.Cond {
		return func(n int) []api.Cond {
			l := conds(isOne())
			for range n {
				l = append(l, isOne(), tied(kind, len(l)-1, len(l)))
			}
			return l
		}
	}
	nots := func(n int) []api.Cond {
		l := conds(isOne())
		for i := range n {
			l = append(l, tied(api.CNot, i, -1))
		}
		return l
	}
	for what, c := range map[string]struct {
		make func(n int) []api.Cond
		most func(free int) int
	}{
		"and": {chained(api.CAnd), func(free int) int { return free + 1 }},
		"or":  {chained(api.COr), func(free int) int { return free + 1 }},
		"not": {nots, func(free int) int { return (free + 1) / 2 }},
	} {
		for place := range inCond(nil) {
			free := api.MaxNest - 1
			switch place {
			case "requires", "ensures":
				free++
			case "then", "else", "in while":
				free--
			}
			wantDepth(t, what+" in "+place, func(n int) api.Program { return inCond(c.make(n))[place] }, c.most(free))
		}
	}
}

func TestBlocksAsDeepAsMayBe(t *testing.T) {
	c := conds(isOne())
	for what, wrap := range map[string]func(l []api.Stmt) api.Stmt{
		"then":  func(l []api.Stmt) api.Stmt { return api.Stmt{Kind: api.SIf, C: c, Body: l} },
		"else":  func(l []api.Stmt) api.Stmt { return api.Stmt{Kind: api.SIf, C: c, Else: l} },
		"while": func(l []api.Stmt) api.Stmt { return api.Stmt{Kind: api.SWhile, C: c, Body: l} },
	} {
		nested := func(last ...api.Stmt) func(n int) api.Program {
			return func(n int) api.Program {
				l := last
				for range n {
					l = []api.Stmt{wrap(l)}
				}
				return body(l...)
			}
		}
		wantDepth(t, what, nested(api.Stmt{Kind: api.SBreak}), api.MaxNest-1)
		wantDepth(t, what+" and a `-`", nested(api.Stmt{Kind: api.SReturn, Has: true, E: signs(api.ENeg, 1)}), api.MaxNest-2)
		wantDepth(t, what+" and an index", nested(api.Stmt{Kind: api.SElem, Name: "x", X: one(), E: one()}), api.MaxNest-2)
		wantDepth(t, what+" and a not", nested(api.Stmt{Kind: api.SAssert, C: conds(isOne(), tied(api.CNot, 0, -1))}), api.MaxNest-2)
		wantDepth(t, what+" and an empty block", nested(api.Stmt{Kind: api.SWhile, C: c}), api.MaxNest-2)
	}
	// A block without statements is open, too; an `else` without them is not printed.
	empty := func(n int) api.Program {
		l := []api.Stmt(nil)
		for range n {
			l = []api.Stmt{{Kind: api.SIf, C: c, Body: l}}
		}
		return body(l...)
	}
	wantDepth(t, "empty blocks", empty, api.MaxNest-1)
}

// However deep a tree is, it is told that it is.
func TestFarTooDeep(t *testing.T) {
	l := []api.Stmt{{Kind: api.SBreak}}
	for range 1<<16 - 10 {
		l = []api.Stmt{{Kind: api.SIf, C: conds(isOne()), Else: l}}
	}
	wantError(t, "many blocks", body(l...), api.ErrArg)
	wantError(t, "a long chain", body(api.Stmt{Kind: api.SReturn, Has: true, E: chain(api.EAdd, 1<<18)}), api.ErrArg)
	wantError(t, "many signs", body(api.Stmt{Kind: api.SReturn, Has: true, E: signs(api.ENeg, 1<<18)}), api.ErrArg)
}

func TestExprOfLists(t *testing.T) {
	for want, l := range map[string][]api.Expr{
		"1":                 one(),
		"0u":                exprs(num(0, api.U32)),
		"2147483647":        exprs(num(1<<31-1, api.I32)),
		"2147483647u":       exprs(num(1<<31-1, api.U32)),
		"4294967295u":       exprs(num(1<<32-1, api.U32)),
		"x_1":               exprs(name("x_1")),
		"result":            exprs(res()),
		"a [ x ]":           exprs(name("x"), elem("a", 0)),
		"old ( result )":    exprs(res(), un(api.EOld, 0)),
		"- 1":               exprs(num(1, api.I32), un(api.ENeg, 0)),
		"~ x":               exprs(name("x"), un(api.ECom, 0)),
		"u16 ( - x )":       exprs(name("x"), un(api.ENeg, 0), cast(api.U16, 1)),
		"x - ( y - z )":     exprs(name("x"), name("y"), name("z"), bin(api.ESub, 1, 2), bin(api.ESub, 0, 3)),
		"( x - y ) - z":     exprs(name("x"), name("y"), bin(api.ESub, 0, 1), name("z"), bin(api.ESub, 2, 3)),
		"- ( a [ x ] % 2 )": exprs(name("x"), elem("a", 0), num(2, api.I32), bin(api.EMod, 1, 2), un(api.ENeg, 3)),
	} {
		if got := Expr(l); got != want {
			t.Errorf("4.2: Expr(%+v): %q, not %q", l, got, want)
		}
	}
}

// A list is none that layer 3 makes if it is too deep even with no brackets but those that it needs; those that only the text has do not count.
func TestExprOfDeepLists(t *testing.T) {
	const most = api.MaxNest
	for _, kind := range []int{api.ENeg, api.ECom} {
		l := mustExpr(t, strings.Repeat(map[int]string{api.ENeg: "-", api.ECom: "~"}[kind], most)+"hole")
		if !sameExpr(l, signs(kind, most)) {
			t.Fatal("not what layer 3 makes")
		}
		sign, _ := operator(kind)
		if got, want := Expr(l), strings.Repeat(sign+" ( ", most-1)+sign+" hole"+strings.Repeat(" )", most-1); got != want {
			t.Errorf("4.2: Expr of %d signs: %q, not %q", most, got, want)
		}
		if got := Expr(signs(kind, most+1)); got != "" {
			t.Errorf("4.2: Expr of %d signs, which layer 3 does not make: %q", most+1, got)
		}
	}
	if got, want := Expr(signs(api.EOld, most)), strings.Repeat("old ( ", most)+"hole"+strings.Repeat(" )", most); got != want {
		t.Errorf("4.2: Expr of %d olds: %q, not %q", most, got, want)
	}
	if got := Expr(signs(api.EOld, most+1)); got != "" {
		t.Errorf("4.2: Expr of %d olds, which layer 3 does not make: %q", most+1, got)
	}
	for _, op := range operators() {
		src := "1" + strings.Repeat(op+"1", 99)
		if got, want := Expr(mustExpr(t, src)), strings.Repeat("( ", 98)+"1"+strings.Repeat(" "+op+" 1 )", 98)+" "+op+" 1"; got != want {
			t.Errorf("4.2: Expr of %q: %q, not %q", src, got, want)
		}
	}
}

// One more pair of brackets that it cannot do without makes a list none that layer 3 makes.
func TestExprOfBracketsThatAreNeeded(t *testing.T) {
	for _, c := range [][3]string{
		{"1-(", "1-1", ")"}, {"1*(", "1*1", ")"}, {"1<<(", "1<<1", ")"}, {"1&(", "1|1", ")"}, {"1-(", "1+1", ")*2"}, {"a[", "1+1", "]"}, {"1-u8(", "1", ")"},
		{"(", "1+1", ")*1+1"}, {"(", "1<<1", ")+1<<1"}, {"(", "1&1", ")<<1^1"}, {"1*(", "1-1", ")-1"}, {"1+(", "1>>1", ")>>1"}, {"1<<(", "1|1", ")&1"},
	} {
		text := strings.Repeat(c[0], api.MaxNest) + c[1] + strings.Repeat(c[2], api.MaxNest)
		l := mustExpr(t, text)
		if s := Expr(l); s == "" {
			t.Errorf("4.2: Expr of %q is empty", text)
		}
		if s := Expr(filled(mustExpr(t, c[0]+"hole"+c[2]), l)); s != "" {
			t.Errorf("4.2: Expr of one deeper than %q: %q", text, s)
		}
	}
}

// Which brackets are needed is what layer 3 says: those without which it makes another tree. What is within is so deep that one pair more is too many.
func TestEachPairOfOperators(t *testing.T) {
	// The number is how many signs are open there.
	outers := map[string]int{"-hole": 1, "~hole": 1, "-hole*1": 1, "1+ -hole": 1}
	inners := map[string]int{"-hole": 1, "~hole": 1, "hole": 0}
	for _, op := range operators() {
		outers["hole"+op+"1"], outers["1"+op+"hole"], outers["1"+op+"hole"+op+"1"] = 0, 0, 0
		inners["hole"+op+"1"], inners["1"+op+"hole"] = 0, 0
	}
	needed := 0
	for outer, n := range outers {
		for inner, m := range inners {
			free := api.MaxNest - n - m
			in := strings.Replace(inner, "hole", strings.Repeat("a[", free)+"x"+strings.Repeat("]", free), 1)
			l := filled(mustExpr(t, outer), mustExpr(t, in))
			made := mustExpr(t, strings.Replace(outer, "hole", in, 1))
			if !sameExpr(made, l) {
				needed++
			}
			if s := Expr(l); (s != "") != sameExpr(made, l) {
				t.Errorf("4.2: Expr of %q in %q: %q", in, outer, s)
			}
		}
	}
	if needed < 100 {
		t.Errorf("only %d pairs need brackets", needed)
	}
}

// filled is outer with inner in the place of the name hole.
func filled(outer, inner []api.Expr) []api.Expr {
	at := slices.IndexFunc(outer, func(n api.Expr) bool { return n.Name == "hole" })
	l := slices.Clone(outer[:at])
	for _, n := range inner {
		l = append(l, shifted(n, 0, at))
	}
	for _, n := range outer[at+1:] {
		l = append(l, shifted(n, at, len(inner)-1))
	}
	return l
}

// shifted is a node whose kids, from a place on, stand further on.
func shifted(n api.Expr, from, by int) api.Expr {
	if n.A >= from {
		n.A += by
	}
	if n.B >= from {
		n.B += by
	}
	return n
}

func TestExprOfLongLists(t *testing.T) {
	const n = 1 << 18
	if got, want := Expr(chain(api.EAdd, n)), strings.Repeat("( ", n-2)+"1"+strings.Repeat(" + 1 )", n-2)+" + 1"; got != want {
		t.Errorf("4.2: Expr of a long chain: %d bytes, not %d", len(got), len(want))
	}
	if got := Expr(balanced(n)); len(strings.Fields(got)) != 2*n-1+2*(n-2) {
		t.Errorf("4.2: Expr of a long sum: %d tokens", len(strings.Fields(got)))
	}
	if got := Expr(signs(api.ENeg, n)); got != "" {
		t.Errorf("4.2: Expr of many signs: %d bytes", len(got))
	}
}
