package show

import (
	"fmt"
	"math"
	"reflect"
	"slices"
	"strings"
	"testing"

	"calliper/api"
)

// Nodes as layer 3 makes them.
func num(v, k int) api.Expr          { return api.Expr{Kind: api.ENum, Num: v, T: k, A: -1, B: -1} }
func name(s string) api.Expr         { return api.Expr{Kind: api.EVar, Name: s, A: -1, B: -1} }
func elem(s string, a int) api.Expr  { return api.Expr{Kind: api.EElem, Name: s, A: a, B: -1} }
func un(kind, a int) api.Expr        { return api.Expr{Kind: kind, A: a, B: -1} }
func cast(k, a int) api.Expr         { return api.Expr{Kind: api.ECast, T: k, A: a, B: -1} }
func bin(kind, a, b int) api.Expr    { return api.Expr{Kind: kind, A: a, B: b} }
func res() api.Expr                  { return api.Expr{Kind: api.EResult, A: -1, B: -1} }
func exprs(l ...api.Expr) []api.Expr { return l }
func rel(r int, x, y []api.Expr) api.Cond {
	return api.Cond{Kind: api.CRel, Rel: r, X: x, Y: y, A: -1, B: -1}
}
func tied(kind, a, b int) api.Cond   { return api.Cond{Kind: kind, A: a, B: b} }
func conds(l ...api.Cond) []api.Cond { return l }

func one() []api.Expr { return exprs(num(1, api.I32)) }

func isOne() api.Cond { return rel(api.REq, one(), one()) }

// inExpr is a program for each place where an expression stands.
func inExpr(l []api.Expr) map[string]api.Program {
	m := map[string]api.Program{}
	for what, s := range map[string]api.Stmt{
		"let":     {Kind: api.SLet, Name: "x", T: api.I8, E: l},
		"set":     {Kind: api.SSet, Name: "x", E: l},
		"index":   {Kind: api.SElem, Name: "x", X: l, E: one()},
		"element": {Kind: api.SElem, Name: "x", X: one(), E: l},
		"first":   {Kind: api.SCall, To: "f", Args: [][]api.Expr{l, one()}},
		"last":    {Kind: api.SCall, To: "f", Args: [][]api.Expr{one(), l}},
		"taken":   {Kind: api.SCall, Has: true, Name: "x", To: "f", Args: [][]api.Expr{l}},
		"return":  {Kind: api.SReturn, Has: true, E: l},
	} {
		m[what] = body(s)
	}
	for what, p := range inCond(conds(rel(api.RLt, l, one()))) {
		m["left in "+what] = p
	}
	for what, p := range inCond(conds(isOne(), rel(api.RLt, one(), l), tied(api.CAnd, 0, 1))) {
		m["right in "+what] = p
	}
	return m
}

// inCond is a program for each place where a condition stands.
func inCond(c []api.Cond) map[string]api.Program {
	good := api.Clause{C: conds(isOne())}
	bad := api.Clause{C: c}
	return map[string]api.Program{
		"requires":  {Funcs: []api.Func{{Name: "f", Requires: []api.Clause{good, bad}}}},
		"ensures":   {Funcs: []api.Func{{Name: "f", Ensures: []api.Clause{bad, good}}}},
		"if":        body(api.Stmt{Kind: api.SIf, C: c}),
		"while":     body(api.Stmt{Kind: api.SWhile, C: c}),
		"invariant": body(api.Stmt{Kind: api.SWhile, C: good.C, Inv: []api.Clause{good, bad}}),
		"assert":    body(api.Stmt{Kind: api.SAssert, C: c}),
		"then":      body(api.Stmt{Kind: api.SIf, C: good.C, Body: []api.Stmt{{Kind: api.SAssert, C: c}}}),
		"else":      body(api.Stmt{Kind: api.SIf, C: good.C, Else: []api.Stmt{{Kind: api.SBreak}, {Kind: api.SAssert, C: c}}}),
		"in while":  body(api.Stmt{Kind: api.SWhile, C: good.C, Body: []api.Stmt{{Kind: api.SAssert, C: c}}}),
		"later":     {Funcs: []api.Func{{Name: "g"}, {Name: "f", Body: []api.Stmt{{Kind: api.SBreak}, {Kind: api.SAssert, C: c}}}}},
	}
}

func body(l ...api.Stmt) api.Program {
	return api.Program{Funcs: []api.Func{{Name: "f", Body: l}}}
}

func goodLists() [][]api.Expr {
	l := [][]api.Expr{
		one(), exprs(name("x")), exprs(res()), exprs(num(0, api.U32)), exprs(num(2147483647, api.I32)), exprs(num(4294967295, api.U32)),
		exprs(name("x"), elem("a", 0)), exprs(name("x"), un(api.EOld, 0)), exprs(name("x"), un(api.ENeg, 0)), exprs(name("x"), un(api.ECom, 0)),
		exprs(name("x"), name("y"), un(api.ENeg, 1), bin(api.EAdd, 0, 2)), exprs(name("x"), un(api.ENeg, 0), name("y"), bin(api.EAdd, 1, 2)),
		exprs(name(strings.Repeat("z", api.MaxName))),
	}
	for k := api.I8; k <= api.U32; k++ {
		l = append(l, exprs(res(), cast(k, 0)))
	}
	for kind := api.EAdd; kind <= api.EShr; kind++ {
		l = append(l, exprs(name("x"), one()[0], bin(kind, 0, 1)))
	}
	return l
}

func TestListsThatLayer3Makes(t *testing.T) {
	for _, l := range goodLists() {
		if Expr(l) == "" {
			t.Errorf("4.2: Expr(%+v) is empty", l)
		}
		for what, p := range inExpr(l) {
			if s, e := Print(p); s == "" || e != api.OK || !Same(mustProgram(t, s), p) {
				t.Errorf("4.2, 4.3: Print of %+v, %s: %q, error %d", l, what, s, e)
			}
		}
	}
}

func wrongNames() []string {
	l := strings.Fields("if global fn requires ensures assigns nothing let call else while invariant break continue return assert input old result not and or i8 u8 i16 u16 i32 u32 " +
		"1 1u 5x _x X Xy xY x- -x x.y x[0] (x) = == é xé ; \"x\" x;y # x#")
	return append(l, "", " ", "x ", " x", "x y", "x\n", "\tx", "x\x00", "\xff", "x=1;y", "x:i8", strings.Repeat("z", api.MaxName+1), strings.Repeat("z", api.MaxText+1), "x #"+strings.Repeat("z", 99))
}

func wrongLists() [][]api.Expr {
	x, y := name("x"), name("y")
	l := [][]api.Expr{
		nil, {},
		// Nodes left over.
		{x, y}, {x, x, x}, {x, y, un(api.ENeg, 1)}, {x, un(api.ENeg, 0), y}, {x, y, bin(api.EAdd, 0, 1), x}, {x, x, y, bin(api.EAdd, 1, 2)},
		// Kids out of place.
		{un(api.ENeg, -1)}, {un(api.ENeg, 0)}, {x, un(api.ENeg, -1)}, {x, un(api.ENeg, 1)}, {x, un(api.ENeg, 2)}, {x, un(api.ENeg, math.MaxInt)}, {x, un(api.ENeg, math.MinInt)}, {x, y, un(api.ENeg, 0)},
		{un(api.ENeg, 1), x}, {x, elem("a", -1)}, {x, elem("a", 1)}, {x, un(api.EOld, 1)}, {x, cast(api.I8, 1)}, {elem("a", -1)}, {cast(api.I8, -1)}, {un(api.EOld, -1)},
		{bin(api.EAdd, -1, -1)}, {bin(api.EAdd, 0, 0)}, {x, bin(api.EAdd, 0, 0)}, {x, bin(api.EAdd, 0, -1)}, {x, bin(api.EAdd, -1, 0)}, {x, y, bin(api.EAdd, 1, 1)}, {x, y, bin(api.EAdd, 0, 0)}, {x, y, bin(api.EAdd, 0, 2)}, {x, y, bin(api.EAdd, 2, 1)},
		{x, y, bin(api.EAdd, 0, math.MaxInt)}, {x, y, bin(api.EAdd, math.MinInt, 1)}, {x, y, bin(api.EAdd, -3, -2)},
		// Kids out of order, and kids of two.
		{x, y, bin(api.EAdd, 1, 0)}, {bin(api.EAdd, 1, 2), x, y}, {x, bin(api.EAdd, 0, 2), y}, {x, y, un(api.ENeg, 0), bin(api.EAdd, 2, 1)}, {x, y, un(api.ENeg, 0), bin(api.EAdd, 1, 2)},
		{x, un(api.ENeg, 0), bin(api.EAdd, 0, 1)}, {x, un(api.ENeg, 0), un(api.ENeg, 0)}, {x, y, bin(api.EAdd, 0, 1), bin(api.EMul, 2, 2)}, {x, y, bin(api.EAdd, 0, 1), bin(api.EMul, 1, 2)},
		// Numbers and types that there are not.
		{num(-1, api.I32)}, {num(-1, api.U32)}, {num(1<<31, api.I32)}, {num(1<<32, api.U32)}, {num(1<<32, api.I32)}, {num(math.MaxInt, api.U32)}, {num(math.MinInt, api.I32)}, {num(1e10, api.U32)}, {num(99999999999, api.U32)},
		{num(1, 0)}, {num(0, 0)}, {num(1, api.I8)}, {num(1, api.U8)}, {num(1, api.I16)}, {num(1, api.U16)}, {num(1, 7)}, {num(1, -1)},
		{x, cast(0, 0)}, {x, cast(7, 0)}, {x, cast(-1, 0)}, {x, cast(math.MaxInt, 0)},
	}
	for _, kind := range []int{math.MinInt, -1, 0, api.ECast + 1, 99, math.MaxInt} {
		l = append(l, exprs(api.Expr{Kind: kind, A: -1, B: -1}), exprs(api.Expr{Kind: kind}), exprs(x, un(kind, 0)), exprs(x, y, bin(kind, 0, 1)))
	}
	for _, s := range wrongNames() {
		l = append(l, exprs(name(s)), exprs(x, elem(s, 0)), exprs(x, name(s), bin(api.EAdd, 0, 1)))
	}
	return append(l, strayFields()...)
}

// strayFields is each list that is right but for a field that a kind has not.
func strayFields() (l [][]api.Expr) {
	for _, good := range goodLists() {
		root := len(good) - 1
		has := map[int]string{api.ENum: "Num T", api.EVar: "Name", api.EElem: "Name A", api.EOld: "A", api.EResult: "", api.ENeg: "A", api.ECom: "A", api.ECast: "T A"}
		own, ok := has[good[root].Kind]
		if !ok {
			own = "A B"
		}
		for _, f := range []string{"Num", "T", "Name", "A", "B"} {
			if slices.Contains(strings.Fields(own), f) {
				continue
			}
			bad := slices.Clone(good)
			switch v := reflect.ValueOf(&bad[root]).Elem().FieldByName(f); v.Kind() {
			case reflect.String:
				v.SetString("x")
			default:
				v.SetInt(v.Int() + 1)
				l = append(l, slices.Clone(bad))
				v.SetInt(v.Int() - 2)
			}
			l = append(l, bad)
		}
	}
	return l
}

func TestListsThatLayer3DoesNotMake(t *testing.T) {
	for _, l := range wrongLists() {
		if s := Expr(l); s != "" {
			t.Errorf("4.2: Expr(%+v): %q", l, s)
		}
		// Within a tree that is right, too.
		more := append(slices.Clone(l), un(api.ENeg, len(l)-1))
		if s := Expr(more); s != "" {
			t.Errorf("4.2: Expr(%+v): %q", more, s)
		}
		for what, p := range inExpr(l) {
			wantError(t, fmt.Sprintf("%s: %+v", what, l), p, api.ErrArg)
		}
	}
}

func TestConditionsThatLayer3DoesNotMake(t *testing.T) {
	with := func(c api.Cond, turn func(c *api.Cond)) api.Cond {
		turn(&c)
		return c
	}
	r := isOne()
	both := conds(r, r, tied(api.CAnd, 0, 1))
	wrong := [][]api.Cond{
		nil, {}, {r, r}, {r, r, r}, {r, tied(api.CNot, 0, -1), r}, {r, r, tied(api.CNot, 1, -1)}, {r, r, r, tied(api.CAnd, 1, 2)}, append(slices.Clone(both), r),
		{tied(api.CNot, -1, -1)}, {tied(api.CNot, 0, -1)}, {r, tied(api.CNot, 1, -1)}, {r, tied(api.CNot, -1, -1)}, {tied(api.CNot, 1, -1), r}, {r, tied(api.CNot, 2, -1)}, {r, tied(api.CNot, math.MaxInt, -1)}, {r, tied(api.CNot, math.MinInt, -1)},
		{tied(api.CAnd, 0, 0)}, {tied(api.CAnd, -1, -1)}, {r, tied(api.CAnd, 0, 0)}, {r, tied(api.COr, 0, -1)}, {r, r, tied(api.CAnd, 1, 0)}, {r, r, tied(api.COr, 1, 1)}, {r, r, tied(api.CAnd, 0, 2)}, {r, r, tied(api.CAnd, 0, 5)}, {r, r, tied(api.COr, -1, 1)},
		{tied(api.CAnd, 1, 2), r, r}, {r, tied(api.CNot, 0, -1), tied(api.CAnd, 0, 1)}, {r, r, tied(api.CNot, 0, -1), tied(api.CAnd, 1, 2)},
	}
	for _, kind := range []int{math.MinInt, -1, 0, api.COr + 1, math.MaxInt} {
		wrong = append(wrong, conds(tied(kind, -1, -1)), conds(r, tied(kind, 0, -1)), conds(r, r, tied(kind, 0, 1)), conds(with(r, func(c *api.Cond) { c.Kind = kind })))
	}
	for _, k := range []int{math.MinInt, -1, 0, api.RGe + 1, math.MaxInt} {
		wrong = append(wrong, conds(with(r, func(c *api.Cond) { c.Rel = k })))
	}
	not, and, or := tied(api.CNot, 0, -1), tied(api.CAnd, 0, 1), tied(api.COr, 0, 1)
	for _, turn := range []func(c *api.Cond){
		func(c *api.Cond) { c.Rel = api.REq }, func(c *api.Cond) { c.Rel = -1 }, func(c *api.Cond) { c.X = one() }, func(c *api.Cond) { c.Y = one() }, func(c *api.Cond) { c.X = wrongLists()[3] },
	} {
		wrong = append(wrong, conds(r, with(not, turn)), conds(r, r, with(and, turn)), conds(r, r, with(or, turn)))
	}
	for _, turn := range []func(c *api.Cond){
		func(c *api.Cond) { c.A = 0 }, func(c *api.Cond) { c.B = 0 }, func(c *api.Cond) { c.A, c.B = 0, 0 }, func(c *api.Cond) { c.A = -2 }, func(c *api.Cond) { c.X = nil }, func(c *api.Cond) { c.Y = nil },
	} {
		wrong = append(wrong, conds(with(r, turn)))
	}
	wrong = append(wrong, conds(r, with(not, func(c *api.Cond) { c.B = 0 })), conds(r, with(not, func(c *api.Cond) { c.B = -2 })), conds(r, with(not, func(c *api.Cond) { c.B = 1 })))
	for _, c := range wrong {
		for what, p := range inCond(c) {
			wantError(t, fmt.Sprintf("%s: %+v", what, c), p, api.ErrArg)
		}
		for what, p := range inCond(append(slices.Clone(c), tied(api.CNot, len(c)-1, -1))) {
			wantError(t, fmt.Sprintf("%s: not of %+v", what, c), p, api.ErrArg)
		}
	}
}

// goodStmts is a statement of each kind, with the fields that its kind has.
func goodStmts() map[string]api.Stmt {
	c, inv := conds(isOne()), []api.Clause{{C: conds(isOne())}}
	in := []api.Stmt{{Kind: api.SBreak}}
	return map[string]api.Stmt{
		"Name T E":             {Kind: api.SLet, Name: "x", T: api.I8, E: one()},
		"Name T Size":          {Kind: api.SArray, Name: "x", T: api.I8, Size: 2},
		"Name E":               {Kind: api.SSet, Name: "x", E: one()},
		"Name X E":             {Kind: api.SElem, Name: "x", X: one(), E: one()},
		"To Args Has":          {Kind: api.SCall, To: "f", Args: [][]api.Expr{one()}},
		"Has Name To Args":     {Kind: api.SCall, Has: true, Name: "x", To: "f"},
		"C Body Else":          {Kind: api.SIf, C: c, Body: in, Else: in},
		"C Inv Body Has":       {Kind: api.SWhile, C: c, Inv: inv, Body: in},
		"Has C Inv Body Names": {Kind: api.SWhile, Has: true, Names: []string{"x"}, C: c},
		"":                     {Kind: api.SBreak},
		" ":                    {Kind: api.SContinue},
		"Has":                  {Kind: api.SReturn},
		"Has E":                {Kind: api.SReturn, Has: true, E: one()},
		"C":                    {Kind: api.SAssert, C: c},
		"Name":                 {Kind: api.SInput, Name: "x"},
	}
}

func TestFieldsThatAKindOfStatementHasNot(t *testing.T) {
	full := api.Stmt{
		Name: "x", T: api.I8, Size: 1, X: one(), E: one(), Has: true, To: "f", Args: [][]api.Expr{one()},
		C: conds(isOne()), Inv: []api.Clause{{C: conds(isOne())}}, Names: []string{"x"}, Body: []api.Stmt{{Kind: api.SBreak}}, Else: []api.Stmt{{Kind: api.SBreak}},
	}
	for own, s := range goodStmts() {
		wantOK(t, own, body(s))
		v := reflect.ValueOf(full)
		for i := range v.NumField() {
			f := v.Type().Field(i).Name
			if f == "Kind" || f == "At" || slices.Contains(strings.Fields(own), f) {
				continue
			}
			bad := s
			reflect.ValueOf(&bad).Elem().Field(i).Set(v.Field(i))
			what := fmt.Sprintf("kind %d with %s", s.Kind, f)
			wantError(t, what, body(bad), api.ErrArg)
			wantError(t, what+", within", body(api.Stmt{Kind: api.SIf, C: full.C, Else: []api.Stmt{s, bad}}), api.ErrArg)
		}
	}
}

func wantOK(t *testing.T, what string, p api.Program) {
	t.Helper()
	if s, e := Print(p); e != api.OK || !Same(mustProgram(t, s), p) {
		t.Errorf("4.2, 4.3: Print of %s: %q, error %d", what, s, e)
	}
}

func TestStatementsThatLayer3DoesNotMake(t *testing.T) {
	for _, kind := range []int{math.MinInt, -1, 0, api.SInput + 1, math.MaxInt} {
		wantError(t, "no such kind", body(api.Stmt{Kind: kind}), api.ErrArg)
		wantError(t, "no such kind", body(api.Stmt{Kind: kind, Name: "x", E: one()}), api.ErrArg)
	}
	c := conds(isOne())
	for what, s := range map[string]api.Stmt{
		"let of nothing":            {Kind: api.SLet, Name: "x", T: api.I8},
		"set of nothing":            {Kind: api.SSet, Name: "x"},
		"no index":                  {Kind: api.SElem, Name: "x", E: one()},
		"element of nothing":        {Kind: api.SElem, Name: "x", X: one()},
		"an argument of nothing":    {Kind: api.SCall, To: "f", Args: [][]api.Expr{one(), nil}},
		"has, and no name":          {Kind: api.SCall, Has: true, To: "f"},
		"a name, and has not":       {Kind: api.SCall, Name: "x", To: "f"},
		"no one called":             {Kind: api.SCall, Has: true, Name: "x"},
		"if of nothing":             {Kind: api.SIf},
		"while of nothing":          {Kind: api.SWhile},
		"names, and has not":        {Kind: api.SWhile, C: c, Names: []string{"x"}},
		"invariant of nothing":      {Kind: api.SWhile, C: c, Inv: []api.Clause{{}}},
		"has, and returns nothing":  {Kind: api.SReturn, Has: true},
		"returns it, and has not":   {Kind: api.SReturn, E: one()},
		"assert of nothing":         {Kind: api.SAssert},
		"input of nothing":          {Kind: api.SInput},
		"a wrong one within if":     {Kind: api.SIf, C: c, Body: []api.Stmt{{Kind: api.SBreak}, {}}},
		"a wrong one within else":   {Kind: api.SIf, C: c, Else: []api.Stmt{{}}},
		"a wrong one within while":  {Kind: api.SWhile, C: c, Body: []api.Stmt{{}}},
		"nothing of names, but one": {Kind: api.SWhile, C: c, Has: true, Names: []string{""}},
	} {
		wantError(t, what, body(s), api.ErrArg)
		wantError(t, what, body(api.Stmt{Kind: api.SBreak}, s), api.ErrArg)
	}
	wantError(t, "requires nothing", api.Program{Funcs: []api.Func{{Name: "f", Requires: []api.Clause{{}}}}}, api.ErrArg)
	wantError(t, "ensures nothing", api.Program{Funcs: []api.Func{{Name: "f", Ensures: []api.Clause{{}}}}}, api.ErrArg)
}

// A program that is right, of which each name, each type and each size is turned.
func TestWrongNamesTypesAndSizes(t *testing.T) {
	p := mustProgram(t, rich)
	_, paths := fields(reflect.ValueOf(&p).Elem(), "program")
	turned := func(i int, how func(v reflect.Value)) api.Program {
		q := clone(p)
		l, _ := fields(reflect.ValueOf(&q).Elem(), "program")
		how(l[i])
		return q
	}
	for i, path := range paths {
		own, _ := fields(reflect.ValueOf(&p).Elem(), "program")
		switch {
		case own[i].Kind() == reflect.String && own[i].String() != "":
			for _, s := range wrongNames() {
				wantError(t, fmt.Sprintf("%s %q", path, s), turned(i, func(v reflect.Value) { v.SetString(s) }), api.ErrArg)
			}
			wantOK(t, path, turned(i, func(v reflect.Value) { v.SetString("z" + strings.Repeat("_", api.MaxName-1)) }))
		case strings.HasSuffix(path, ".T") && own[i].Int() != 0:
			for _, k := range []int{math.MinInt, -1, 7, 8, math.MaxInt} {
				wantError(t, fmt.Sprintf("%s %d", path, k), turned(i, func(v reflect.Value) { v.SetInt(int64(k)) }), api.ErrArg)
			}
		case strings.HasSuffix(path, ".Size") && own[i].Int() != 0, strings.HasSuffix(path, "Globals[].Size"), strings.HasSuffix(path, "Params[].Size"):
			for _, k := range []int{math.MinInt, -1 << 32, -1, 1 << 32, 1 << 40, math.MaxInt} {
				wantError(t, fmt.Sprintf("%s %d", path, k), turned(i, func(v reflect.Value) { v.SetInt(int64(k)) }), api.ErrArg)
			}
			for _, k := range []int{0, 1, 17, 1<<31 - 1, 1 << 31, 1<<32 - 1} {
				wantOK(t, path, turned(i, func(v reflect.Value) { v.SetInt(int64(k)) }))
			}
		case strings.HasSuffix(path, ".Init"):
			for _, k := range []int{math.MinInt, -1 << 40, -1 << 32, 1 << 32, 1 << 40, math.MaxInt, math.MinInt + 1} {
				wantError(t, fmt.Sprintf("%s %d", path, k), turned(i, func(v reflect.Value) { v.SetInt(int64(k)) }), api.ErrArg)
			}
			for _, k := range []int{-1<<32 + 1, -1 << 31, -1<<31 + 1, -1, 0, 1, 1<<31 - 1, 1 << 31, 1<<32 - 1} {
				wantOK(t, path, turned(i, func(v reflect.Value) { v.SetInt(int64(k)) }))
			}
		}
	}
	wantError(t, "a global of no type", api.Program{Globals: []api.Global{{Name: "x"}}}, api.ErrArg)
	wantError(t, "a parameter of no type", api.Program{Funcs: []api.Func{{Name: "f", Params: []api.Param{{Name: "x"}}}}}, api.ErrArg)
	wantError(t, "a let of no type", body(api.Stmt{Kind: api.SLet, Name: "x", E: one()}), api.ErrArg)
	wantError(t, "an array of no type", body(api.Stmt{Kind: api.SArray, Name: "x", Size: 1}), api.ErrArg)
	wantError(t, "a function of no name", api.Program{Funcs: []api.Func{{}}}, api.ErrArg)
}

// Whatever At says, in whatever place: it is not looked at.
func TestPlacesDoNotCount(t *testing.T) {
	p := mustProgram(t, rich)
	for _, at := range []int{0, -1, math.MaxInt, math.MinInt} {
		q := clone(p)
		l, paths := fields(reflect.ValueOf(&q).Elem(), "program")
		for i, v := range l {
			if strings.HasSuffix(paths[i], ".At") {
				v.SetInt(int64(at))
			}
		}
		wantPrint(t, q, rich)
		wantSame(t, "all places", p, q, true)
		e := mustExpr(t, "x + 1 * y")
		for i := range e {
			e[i].At = at
		}
		if s := Expr(e); s != "x + ( 1 * y )" {
			t.Errorf("4.2: Expr with each At %d: %q", at, s)
		}
	}
}

func TestWhatIsHandedInIsNotChanged(t *testing.T) {
	p := mustProgram(t, rich)
	want := fmt.Sprintf("%+v", p)
	Print(p)
	Same(p, clone(p))
	for _, s := range p.Funcs[0].Body {
		Expr(s.E)
	}
	if got := fmt.Sprintf("%+v", p); got != want {
		t.Errorf("R3: changed:\n got %s\nwant %s", got, want)
	}
}
