package parse

import (
	"fmt"
	"reflect"
	"strings"
	"testing"

	"calliper/api"
)

// mustProgram and mustCond are for texts that are right.
func mustProgram(t *testing.T, s string) api.Program {
	t.Helper()
	p, e, at := Program(s)
	if e != api.OK || at != 0 {
		t.Fatalf("3.1: Program(%.80q): error %d at %d", s, e, at)
	}
	return p
}

func mustCond(t *testing.T, s string) []api.Cond {
	t.Helper()
	c, e, at := Cond(s)
	if e != api.OK || at != 0 {
		t.Fatalf("3.1: Cond(%.80q): error %d at %d", s, e, at)
	}
	return c
}

// mustExpr is the tree of an expression, read as one side of a relation.
func mustExpr(t *testing.T, s string) []api.Expr {
	t.Helper()
	c := mustCond(t, s+" == 0")
	if len(c) != 1 || c[0].Kind != api.CRel {
		t.Fatalf("3.2: Cond of %q and a relation: %+v", s, c)
	}
	return c[0].X
}

// same holds two trees against one another, nil and empty lists alike.
func same(t *testing.T, what string, got, want any) {
	t.Helper()
	if g, w := fmt.Sprintf("%+v", got), fmt.Sprintf("%+v", want); g != w {
		t.Errorf("3.2: %.200s:\n got %s\nwant %s", what, g, w)
	}
}

// Nodes as they are to be: every field that is not named here is to be zero, and A, B are -1 without a kid.
func num(v, k, at int) api.Expr { return api.Expr{Kind: api.ENum, Num: v, T: k, A: -1, B: -1, At: at} }
func name(s string, at int) api.Expr {
	return api.Expr{Kind: api.EVar, Name: s, A: -1, B: -1, At: at}
}
func elem(s string, a, at int) api.Expr {
	return api.Expr{Kind: api.EElem, Name: s, A: a, B: -1, At: at}
}
func un(kind, a, at int) api.Expr     { return api.Expr{Kind: kind, A: a, B: -1, At: at} }
func cast(k, a, at int) api.Expr      { return api.Expr{Kind: api.ECast, T: k, A: a, B: -1, At: at} }
func bin(kind, a, b, at int) api.Expr { return api.Expr{Kind: kind, A: a, B: b, At: at} }
func res(at int) api.Expr             { return api.Expr{Kind: api.EResult, A: -1, B: -1, At: at} }
func exprs(l ...api.Expr) []api.Expr  { return l }
func rel(r int, x, y []api.Expr, at int) api.Cond {
	return api.Cond{Kind: api.CRel, Rel: r, X: x, Y: y, A: -1, B: -1, At: at}
}
func tied(kind, a, b, at int) api.Cond { return api.Cond{Kind: kind, A: a, B: b, At: at} }
func conds(l ...api.Cond) []api.Cond   { return l }

func TestNodesOfExpressions(t *testing.T) {
	for s, want := range map[string][]api.Expr{
		"0":                           exprs(num(0, api.I32, 0)),
		" 7":                          exprs(num(7, api.I32, 1)),
		"2147483647":                  exprs(num(2147483647, api.I32, 0)),
		"0u":                          exprs(num(0, api.U32, 0)),
		"4294967295u":                 exprs(num(4294967295, api.U32, 0)),
		"x":                           exprs(name("x", 0)),
		"(x)":                         exprs(name("x", 1)),
		"((x_1))":                     exprs(name("x_1", 2)),
		"result":                      exprs(res(0)),
		"a[i]":                        exprs(name("i", 2), elem("a", 0, 0)),
		"a [ 3u ]":                    exprs(num(3, api.U32, 4), elem("a", 0, 0)),
		"a[b[c]]":                     exprs(name("c", 4), elem("b", 0, 2), elem("a", 1, 0)),
		"old(x)":                      exprs(name("x", 4), un(api.EOld, 0, 0)),
		"old ( old ( a[0] ) )":        exprs(num(0, api.I32, 14), elem("a", 0, 12), un(api.EOld, 1, 6), un(api.EOld, 2, 0)),
		"-x":                          exprs(name("x", 1), un(api.ENeg, 0, 0)),
		"~x":                          exprs(name("x", 1), un(api.ECom, 0, 0)),
		"-1":                          exprs(num(1, api.I32, 1), un(api.ENeg, 0, 0)),
		"--x":                         exprs(name("x", 2), un(api.ENeg, 0, 1), un(api.ENeg, 1, 0)),
		"~-~x":                        exprs(name("x", 3), un(api.ECom, 0, 2), un(api.ENeg, 1, 1), un(api.ECom, 2, 0)),
		"i8(x)":                       exprs(name("x", 3), cast(api.I8, 0, 0)),
		"u8(x)":                       exprs(name("x", 3), cast(api.U8, 0, 0)),
		"i16(x)":                      exprs(name("x", 4), cast(api.I16, 0, 0)),
		"u16(x)":                      exprs(name("x", 4), cast(api.U16, 0, 0)),
		"i32(x)":                      exprs(name("x", 4), cast(api.I32, 0, 0)),
		"u32 (x)":                     exprs(name("x", 5), cast(api.U32, 0, 0)),
		"u8(i8(1))":                   exprs(num(1, api.I32, 6), cast(api.I8, 0, 3), cast(api.U8, 1, 0)),
		"-x+y":                        exprs(name("x", 1), un(api.ENeg, 0, 0), name("y", 3), bin(api.EAdd, 1, 2, 2)),
		"x - -y":                      exprs(name("x", 0), name("y", 5), un(api.ENeg, 1, 4), bin(api.ESub, 0, 2, 2)),
		"-(x+y)":                      exprs(name("x", 2), name("y", 4), bin(api.EAdd, 0, 1, 3), un(api.ENeg, 2, 0)),
		"-a[x*y]":                     exprs(name("x", 3), name("y", 5), bin(api.EMul, 0, 1, 4), elem("a", 2, 1), un(api.ENeg, 3, 0)),
		"(x+y)*(z-1)":                 exprs(name("x", 1), name("y", 3), bin(api.EAdd, 0, 1, 2), name("z", 7), num(1, api.I32, 9), bin(api.ESub, 3, 4, 8), bin(api.EMul, 2, 5, 5)),
		"x-(y-z)":                     exprs(name("x", 0), name("y", 3), name("z", 5), bin(api.ESub, 1, 2, 4), bin(api.ESub, 0, 3, 1)),
		"u8(x)^old(y)":                exprs(name("x", 3), cast(api.U8, 0, 0), name("y", 10), un(api.EOld, 2, 6), bin(api.EXor, 1, 3, 5)),
		"x | y << z + w * v":          exprs(name("x", 0), name("y", 4), name("z", 9), name("w", 13), name("v", 17), bin(api.EMul, 3, 4, 15), bin(api.EAdd, 2, 5, 11), bin(api.EShl, 1, 6, 6), bin(api.EOr, 0, 7, 2)),
		"x * y + z << w | v":          exprs(name("x", 0), name("y", 4), bin(api.EMul, 0, 1, 2), name("z", 8), bin(api.EAdd, 2, 3, 6), name("w", 13), bin(api.EShl, 4, 5, 10), name("v", 17), bin(api.EOr, 6, 7, 15)),
		"result + a[result]":          exprs(res(0), res(11), elem("a", 1, 9), bin(api.EAdd, 0, 2, 7)),
		"# remark ( [ {\n\t x\r\n +y": exprs(name("x", 17), name("y", 22), bin(api.EAdd, 0, 1, 21)),
	} {
		same(t, s, mustExpr(t, s), want)
		// The same tree, in places further on, as the other side of a relation.
		shifted := append([]api.Expr{}, want...)
		for i := range shifted {
			shifted[i].At += 5
		}
		same(t, s, mustCond(t, "0 == "+s), conds(rel(api.REq, exprs(num(0, api.I32, 0)), shifted, 2)))
	}
}

// Operators, by how they bind; those of one row alike.
func rows() [][]string {
	return [][]string{{"&", "|", "^"}, {"<<", ">>"}, {"+", "-"}, {"*", "/", "%"}}
}

func kinds() map[string]int {
	return map[string]int{
		"&": api.EAnd, "|": api.EOr, "^": api.EXor, "<<": api.EShl, ">>": api.EShr,
		"+": api.EAdd, "-": api.ESub, "*": api.EMul, "/": api.EDiv, "%": api.EMod,
	}
}

func TestEachOperator(t *testing.T) {
	for op, kind := range kinds() {
		same(t, op, mustExpr(t, "x "+op+" y"), exprs(name("x", 0), name("y", 3+len(op)), bin(kind, 0, 1, 2)))
	}
}

func TestHowTwoOperatorsBind(t *testing.T) {
	kind := kinds()
	for i, firsts := range rows() {
		for j, seconds := range rows() {
			for _, p := range firsts {
				for _, q := range seconds {
					s := "x " + p + " y " + q + " z"
					atP, y := 2, 3+len(p)
					atQ, z := y+2, y+3+len(q)
					want := exprs(name("x", 0), name("y", y), bin(kind[p], 0, 1, atP), name("z", z), bin(kind[q], 2, 3, atQ))
					if j > i {
						want = exprs(name("x", 0), name("y", y), name("z", z), bin(kind[q], 1, 2, atQ), bin(kind[p], 0, 3, atP))
					}
					same(t, s, mustExpr(t, s), want)
				}
			}
		}
	}
}

func TestLongRowsOfOperatorsGoFromTheLeft(t *testing.T) {
	for _, row := range rows() {
		s, want := "v", exprs(name("v", 0))
		for i := range 200 {
			op := row[i%len(row)]
			left := len(want) - 1
			want = append(want, name("w", len(s)+2+len(op)), bin(kinds()[op], left, left+1, len(s)+1))
			s += " " + op + " w"
		}
		same(t, row[0], mustExpr(t, s), want)
	}
}

func TestRelations(t *testing.T) {
	for i, sign := range []string{"==", "!=", "<", "<=", ">", ">="} {
		want := conds(rel(api.REq+i, exprs(name("x", 0)), exprs(num(1, api.I32, 1+len(sign))), 1))
		same(t, sign, mustCond(t, "x"+sign+"1"), want)
	}
	// Each side's places are its own list's; an operator binds closer than a relation.
	same(t, "both sides", mustCond(t, "x+1 <= y&2"), conds(rel(api.RLe,
		exprs(name("x", 0), num(1, api.I32, 2), bin(api.EAdd, 0, 1, 1)),
		exprs(name("y", 7), num(2, api.I32, 9), bin(api.EAnd, 0, 1, 8)), 4)))
}

// at is the relation `x<1`, at a place.
func at(place int) api.Cond {
	return rel(api.RLt, exprs(name("x", place)), exprs(num(1, api.I32, place+2)), place+1)
}

func TestConditions(t *testing.T) {
	for s, want := range map[string][]api.Cond{
		"x<1":                    conds(at(0)),
		"[x<1]":                  conds(at(1)),
		"[[ x<1 ]]":              conds(at(3)),
		"not x<1":                conds(at(4), tied(api.CNot, 0, -1, 0)),
		"not not x<1":            conds(at(8), tied(api.CNot, 0, -1, 4), tied(api.CNot, 1, -1, 0)),
		"not [x<1]":              conds(at(5), tied(api.CNot, 0, -1, 0)),
		"x<1 and x<1":            conds(at(0), at(8), tied(api.CAnd, 0, 1, 4)),
		"x<1 or x<1":             conds(at(0), at(7), tied(api.COr, 0, 1, 4)),
		"x<1 and x<1 and x<1":    conds(at(0), at(8), tied(api.CAnd, 0, 1, 4), at(16), tied(api.CAnd, 2, 3, 12)),
		"x<1 or x<1 or x<1":      conds(at(0), at(7), tied(api.COr, 0, 1, 4), at(14), tied(api.COr, 2, 3, 11)),
		"x<1 or x<1 and x<1":     conds(at(0), at(7), at(15), tied(api.CAnd, 1, 2, 11), tied(api.COr, 0, 3, 4)),
		"x<1 and x<1 or x<1":     conds(at(0), at(8), tied(api.CAnd, 0, 1, 4), at(15), tied(api.COr, 2, 3, 12)),
		"x<1 and [x<1 or x<1]":   conds(at(0), at(9), at(16), tied(api.COr, 1, 2, 13), tied(api.CAnd, 0, 3, 4)),
		"[x<1 or x<1] and x<1":   conds(at(1), at(8), tied(api.COr, 0, 1, 5), at(17), tied(api.CAnd, 2, 3, 13)),
		"x<1 or [x<1 or x<1]":    conds(at(0), at(8), at(15), tied(api.COr, 1, 2, 12), tied(api.COr, 0, 3, 4)),
		"not x<1 and x<1":        conds(at(4), tied(api.CNot, 0, -1, 0), at(12), tied(api.CAnd, 1, 2, 8)),
		"not x<1 or not x<1":     conds(at(4), tied(api.CNot, 0, -1, 0), at(15), tied(api.CNot, 2, -1, 11), tied(api.COr, 1, 3, 8)),
		"not [x<1 and x<1]":      conds(at(5), at(13), tied(api.CAnd, 0, 1, 9), tied(api.CNot, 2, -1, 0)),
		"not [not x<1 or [x<1]]": conds(at(9), tied(api.CNot, 0, -1, 5), at(17), tied(api.COr, 1, 2, 13), tied(api.CNot, 3, -1, 0)),
		"\n x<1 # not\n":         conds(at(2)),
	} {
		same(t, s, mustCond(t, s), want)
	}
}

func TestGlobals(t *testing.T) {
	for s, want := range map[string]api.Global{
		"global x : i32 = 3;":             {Name: "x", T: api.I32, Init: 3, At: 7},
		"global x:i8;":                    {Name: "x", T: api.I8, At: 7},
		"  global\nlonger_name_1 : u8 ; ": {Name: "longer_name_1", T: api.U8, At: 9},
		"global x:i16=0;":                 {Name: "x", T: api.I16, At: 7},
		"global x:u16=-7;":                {Name: "x", T: api.U16, Init: -7, At: 7},
		"global x:i32=- 0;":               {Name: "x", T: api.I32, At: 7},
		"global x:u32=4294967295u;":       {Name: "x", T: api.U32, Init: 4294967295, At: 7},
		"global x:i8=4294967295u;":        {Name: "x", T: api.I8, Init: 4294967295, At: 7},
		"global x:i8=-4294967295u;":       {Name: "x", T: api.I8, Init: -4294967295, At: 7},
		"global x:u8=2147483647;":         {Name: "x", T: api.U8, Init: 2147483647, At: 7},
		"global x:u32=-5u;":               {Name: "x", T: api.U32, Init: -5, At: 7},
		"global x:i32[3];":                {Name: "x", T: api.I32, Size: 3, At: 7},
		"global x:i32[3u];":               {Name: "x", T: api.I32, Size: 3, At: 7},
		"global x:i32[0];":                {Name: "x", T: api.I32, At: 7},
		"global x:i32[17]=9;":             {Name: "x", T: api.I32, Size: 17, Init: 9, At: 7},
		"global x:u8[4294967295u]=-1u;":   {Name: "x", T: api.U8, Size: 4294967295, Init: -1, At: 7},
	} {
		same(t, s, mustProgram(t, s), api.Program{Globals: []api.Global{want}})
	}
}

func TestEmptyText(t *testing.T) {
	for _, s := range []string{"", " ", "\n\t\r ", "# nothing", strings.Repeat(" ", api.MaxText)} {
		if p := mustProgram(t, s); len(p.Globals) != 0 || len(p.Funcs) != 0 {
			t.Errorf("3.1: Program(%.20q): %+v", s, p)
		}
	}
}

func TestGlobalsAndFunctionsInAnyOrder(t *testing.T) {
	p := mustProgram(t, "fn f(){} global a:i8; fn g(){} fn f(){} global a:u8;")
	same(t, "mixed", p, api.Program{
		Globals: []api.Global{{Name: "a", T: api.I8, At: 16}, {Name: "a", T: api.U8, At: 47}},
		Funcs:   []api.Func{{Name: "f", At: 3}, {Name: "g", At: 25}, {Name: "f", At: 34}},
	})
}

func TestFunctions(t *testing.T) {
	clause := func(word, place int) api.Clause { return api.Clause{At: word, C: conds(at(place))} }
	for s, want := range map[string]api.Func{
		"fn f(){}":                                 {Name: "f", At: 3},
		" fn\nmain ( ) { } ":                       {Name: "main", At: 4},
		"fn f():u16{}":                             {Name: "f", At: 3, T: api.U16},
		"fn f(x:i8){}":                             {Name: "f", At: 3, Params: []api.Param{{Name: "x", T: api.I8, At: 5}}},
		"fn f(x:i8[2u]):u32{}":                     {Name: "f", At: 3, T: api.U32, Params: []api.Param{{Name: "x", T: api.I8, Size: 2, At: 5}}},
		"fn f(x:i8, a : u16 [ 4 ],x:i32){}":        {Name: "f", At: 3, Params: []api.Param{{Name: "x", T: api.I8, At: 5}, {Name: "a", T: api.U16, Size: 4, At: 11}, {Name: "x", T: api.I32, At: 25}}},
		"fn f()requires x<1;{}":                    {Name: "f", At: 3, Requires: []api.Clause{clause(6, 15)}},
		"fn f()ensures x<1;{}":                     {Name: "f", At: 3, Ensures: []api.Clause{clause(6, 14)}},
		"fn f()ensures x<1;requires x<1;{}":        {Name: "f", At: 3, Requires: []api.Clause{clause(18, 27)}, Ensures: []api.Clause{clause(6, 14)}},
		"fn f()requires x<1;requires [x<1];{}":     {Name: "f", At: 3, Requires: []api.Clause{clause(6, 15), clause(19, 29)}},
		"fn f()ensures x<1;ensures x<1;{}":         {Name: "f", At: 3, Ensures: []api.Clause{clause(6, 14), clause(18, 26)}},
		"fn f()assigns nothing;{}":                 {Name: "f", At: 3},
		"fn f()assigns a;{}":                       {Name: "f", At: 3, Names: []string{"a"}},
		"fn f()assigns a,b , c;{}":                 {Name: "f", At: 3, Names: []string{"a", "b", "c"}},
		"fn f()assigns c,b;assigns a,c;{}":         {Name: "f", At: 3, Names: []string{"c", "b", "a", "c"}},
		"fn f()assigns nothing;assigns a;{}":       {Name: "f", At: 3, Names: []string{"a"}},
		"fn f()assigns a;assigns nothing;{}":       {Name: "f", At: 3, Names: []string{"a"}},
		"fn f()assigns a;ensures x<1;assigns b;{}": {Name: "f", At: 3, Names: []string{"a", "b"}, Ensures: []api.Clause{clause(16, 24)}},
		"fn f():i8 requires x<1;{return;}":         {Name: "f", At: 3, T: api.I8, Requires: []api.Clause{clause(10, 19)}, Body: []api.Stmt{{Kind: api.SReturn, At: 24}}},
	} {
		same(t, s, mustProgram(t, s), api.Program{Funcs: []api.Func{want}})
	}
}

func TestStatements(t *testing.T) {
	x := func(place int) []api.Expr { return exprs(name("x", place)) }
	stop := func(place int) []api.Stmt { return []api.Stmt{{Kind: api.SBreak, At: place}} }
	inv := func(word, place int) api.Clause { return api.Clause{At: word, C: conds(at(place))} }
	for s, want := range map[string]api.Stmt{
		"let y:i8=x;":                  {Kind: api.SLet, Name: "y", T: api.I8, E: x(9)},
		"let y : u32 = x+x ;":          {Kind: api.SLet, Name: "y", T: api.U32, E: exprs(name("x", 14), name("x", 16), bin(api.EAdd, 0, 1, 15))},
		"let y:u16[4];":                {Kind: api.SArray, Name: "y", T: api.U16, Size: 4},
		"let y:u16[0];":                {Kind: api.SArray, Name: "y", T: api.U16},
		"let y:i16[4294967295u];":      {Kind: api.SArray, Name: "y", T: api.I16, Size: 4294967295},
		"y=x;":                         {Kind: api.SSet, Name: "y", E: x(2)},
		"y = -x ;":                     {Kind: api.SSet, Name: "y", E: exprs(name("x", 5), un(api.ENeg, 0, 4))},
		"y[x]=x;":                      {Kind: api.SElem, Name: "y", X: x(2), E: x(5)},
		"y[x*x]=y[x];":                 {Kind: api.SElem, Name: "y", X: exprs(name("x", 2), name("x", 4), bin(api.EMul, 0, 1, 3)), E: exprs(name("x", 9), elem("y", 0, 7))},
		"call f();":                    {Kind: api.SCall, To: "f"},
		"call f(x);":                   {Kind: api.SCall, To: "f", Args: [][]api.Expr{x(7)}},
		"call f(x,(x) , -x);":          {Kind: api.SCall, To: "f", Args: [][]api.Expr{x(7), x(10), exprs(name("x", 16), un(api.ENeg, 0, 15))}},
		"call y=f();":                  {Kind: api.SCall, Has: true, Name: "y", To: "f"},
		"call y = f ( x , 2 ) ;":       {Kind: api.SCall, Has: true, Name: "y", To: "f", Args: [][]api.Expr{x(13), exprs(num(2, api.I32, 17))}},
		"if x<1{}":                     {Kind: api.SIf, C: conds(at(3))},
		"if x<1{}else{}":               {Kind: api.SIf, C: conds(at(3))},
		"if x<1{break;}":               {Kind: api.SIf, C: conds(at(3)), Body: stop(7)},
		"if x<1{break;}else{}":         {Kind: api.SIf, C: conds(at(3)), Body: stop(7)},
		"if x<1{}else{break;}":         {Kind: api.SIf, C: conds(at(3)), Else: stop(13)},
		"if [x<1]{break;}else{break;}": {Kind: api.SIf, C: conds(at(4)), Body: stop(9), Else: stop(21)},
		"while x<1{}":                  {Kind: api.SWhile, C: conds(at(6))},
		"while not x<1{break;}":        {Kind: api.SWhile, C: conds(at(10), tied(api.CNot, 0, -1, 6)), Body: stop(14)},
		"while x<1 invariant x<1;{}":   {Kind: api.SWhile, C: conds(at(6)), Inv: []api.Clause{inv(10, 20)}},
		"while x<1 invariant x<1;invariant [x<1];{}":          {Kind: api.SWhile, C: conds(at(6)), Inv: []api.Clause{inv(10, 20), inv(24, 35)}},
		"while x<1 assigns nothing;{}":                        {Kind: api.SWhile, C: conds(at(6)), Has: true},
		"while x<1 assigns b,a;{}":                            {Kind: api.SWhile, C: conds(at(6)), Has: true, Names: []string{"b", "a"}},
		"while x<1 invariant x<1;assigns nothing;{continue;}": {Kind: api.SWhile, C: conds(at(6)), Has: true, Inv: []api.Clause{inv(10, 20)}, Body: []api.Stmt{{Kind: api.SContinue, At: 41}}},
		"break;":      {Kind: api.SBreak},
		"continue ;":  {Kind: api.SContinue},
		"return;":     {Kind: api.SReturn},
		"return x;":   {Kind: api.SReturn, Has: true, E: x(7)},
		"return (x);": {Kind: api.SReturn, Has: true, E: x(8)},
		"assert x<1;": {Kind: api.SAssert, C: conds(at(7))},
		"input y;":    {Kind: api.SInput, Name: "y"},
	} {
		// Places are told as those of the statement alone, without the head of its function.
		const head = "fn f(){"
		same(t, s, unshift(mustProgram(t, head+s+"}").Funcs[0].Body, len(head)), []api.Stmt{want})
	}
}

// unshift takes n from the places of statements and of all within them.
func unshift(l []api.Stmt, n int) []api.Stmt {
	var less func(v reflect.Value)
	less = func(v reflect.Value) {
		switch v.Kind() {
		case reflect.Slice:
			for i := range v.Len() {
				less(v.Index(i))
			}
		case reflect.Struct:
			for i := range v.NumField() {
				if v.Type().Field(i).Name == "At" {
					v.Field(i).SetInt(v.Field(i).Int() - int64(n))
				}
				less(v.Field(i))
			}
		}
	}
	less(reflect.ValueOf(&l).Elem())
	return l
}

func TestStatementsInOrderAndNested(t *testing.T) {
	p := mustProgram(t, "fn f(){while x<1{if x<1{break;}else{y=x;}continue;}return;input y;}")
	same(t, "nested", p.Funcs[0].Body, []api.Stmt{
		{Kind: api.SWhile, At: 7, C: conds(at(13)), Body: []api.Stmt{
			{Kind: api.SIf, At: 17, C: conds(at(20)),
				Body: []api.Stmt{{Kind: api.SBreak, At: 24}},
				Else: []api.Stmt{{Kind: api.SSet, At: 36, Name: "y", E: exprs(name("x", 38))}}},
			{Kind: api.SContinue, At: 41}}},
		{Kind: api.SReturn, At: 51},
		{Kind: api.SInput, At: 58, Name: "y"},
	})
}

// rich has every kind of list that a tree has, several long, so that they have spare room.
const rich = "global a:i8; global b:i8; global c:u8[2]; fn f(x:i8,y:i8,z:i8):i8 requires x<1 and x<1 or x<1; requires x<1; requires x<1; ensures x<1; ensures x<1+2*3; ensures x<1; assigns a,b; assigns c; " +
	"{ let q:i8[3]; q[x+1-2]=1+x+2; call x=f(x+1,1+2+3,3); call x=f(1,2,3); if x<1 or x<1 {break;continue;return;} else {break;return x+1;break;} while x<1 invariant x<1; invariant x<1 and not x<1; invariant x<1; assigns a,b,c; {input x;assert x<1;input x;} } fn g(){} fn h(){}"

func TestAnswersShareNoMemory(t *testing.T) {
	want := fmt.Sprintf("%+v", mustProgram(t, rich))
	p := mustProgram(t, rich)
	// The spare room of every list is written full: nothing that is told may change by it.
	var spoil func(v reflect.Value)
	spoil = func(v reflect.Value) {
		switch v.Kind() {
		case reflect.Slice:
			for i := range v.Len() {
				spoil(v.Index(i))
			}
			full := v.Slice3(0, v.Cap(), v.Cap())
			for i := v.Len(); i < v.Cap(); i++ {
				fill(full.Index(i))
			}
		case reflect.Struct:
			for i := range v.NumField() {
				spoil(v.Field(i))
			}
		}
	}
	spoil(reflect.ValueOf(&p).Elem())
	if got := fmt.Sprintf("%+v", p); got != want {
		t.Errorf("3.2: lists share spare room:\n got %s\nwant %s", got, want)
	}
	// And whoever turns what was told changes no later answer.
	p.Globals[0].Name, p.Funcs[0].Names[0], p.Funcs[0].Body[0].Name = "turned", "turned", "turned"
	if got := fmt.Sprintf("%+v", mustProgram(t, rich)); got != want {
		t.Errorf("3.2: a later answer changed:\n got %s\nwant %s", got, want)
	}
}

// fill makes a value another one than its zero value.
func fill(v reflect.Value) {
	switch v.Kind() {
	case reflect.String:
		v.SetString("spoilt")
	case reflect.Int:
		v.SetInt(99)
	case reflect.Slice:
		v.Set(reflect.MakeSlice(v.Type(), 5, 5))
	case reflect.Struct:
		for i := range v.NumField() {
			fill(v.Field(i))
		}
	}
}
