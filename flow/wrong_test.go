package flow

import (
	"math"
	"reflect"
	"slices"
	"testing"

	"calliper/api"
)

// wantEnd: a run of whatever it is given comes to one of the ends, and keeps to what holds of that end.
func wantEnd(t *testing.T, p api.Program, entry string, args []int, globals []api.Block, inputs []int, fuel int) int {
	t.Helper()
	x := Run(p, entry, args, globals, inputs, fuel)
	bare := x.Result == 0 && len(x.Globals) == 0
	if x.End < api.EndDone || x.End > api.EndNone || x.End != api.EndDone && !bare || x.End == api.EndNone && len(x.Events) > 0 {
		t.Fatalf("R1: %s of %v, globals %v, inputs %v, fuel %d: %+v", entry, args, globals, inputs, fuel, x)
	}
	return x.End
}

// TestProgramsWithFaults: of sources that are against the rules of types.
func TestProgramsWithFaults(t *testing.T) {
	for _, src := range []string{
		"fn f ( ) { input x ; let y : i8 = 1 ; }", "fn f ( ) { x = 1 ; x = y + z [ 1 ] ; }", "fn f ( ) { x [ 3 ] = 1 ; }", "fn f ( ) { let x : i8 = 1 ; x [ 0 ] = 1 ; x [ 1 ] = 1 ; }", "fn f ( ) { let a : i8 [ 3 ] ; a = 1 ; input a ; a [ a ] = a ; }",
		"fn f ( ) { call nix ( ) ; call x = nix ( 1 / 0 ) ; }", "fn f ( ) { call f ( 1 ) ; }", "fn f ( ) { call g ( ) ; call g ( 1 , 2 , 3 ) ; } fn g ( x : i8 , y : i8 ) { x = y ; }", "fn f ( ) { call x = g ( ) ; let x : i8 = 1 ; call x = g ( ) ; } fn g ( ) { }",
		"fn f ( ) { call g ( 1 ) ; call g ( x ) ; let x : i8 = 1 ; call g ( x ) ; call g ( x + 1 ) ; let a : u8 [ 1 ] ; call g ( a ) ; } fn g ( a : i8 [ 2 ] ) { a [ 1 ] = 1 ; }", "global l : i8 [ 2 ] ; fn f ( ) { call g ( l , l ) ; } fn g ( a : i8 [ 2 ] , b : i8 [ 2 ] ) assigns a ; { a [ 1 ] = 1 ; b [ 0 ] = a [ 1 ] ; }",
		"fn f ( ) { break ; }", "fn f ( ) { if 1 < 2 { continue ; } }", "fn f ( ) { return 1 ; }", "fn f ( ) : i8 { return ; }", "fn f ( ) : i8 { call g ( ) ; } fn g ( ) { break ; }",
		"fn f ( ) requires result == old ( x ) ; ensures old ( old ( x ) ) == result ; { assert result == old ( y ) ; }", "fn f ( ) : i8 ensures result == old ( x [ 9 ] ) ; { }",
		"global f : i8 ; global f : i8 [ 2 ] ; fn f ( ) { f = 1 ; f [ 1 ] = 2 ; } fn f ( f : i8 ) { }", "fn f ( ) { let f : i8 = 1 ; let f : i8 [ 2 ] ; f [ 1 ] = f ; f = 1 ; }", "fn f ( ) { } fn f ( x : i8 ) { }",
		"global l : i8 [ 0 ] ; global k : i8 [ 99 ] ; fn f ( ) assigns l , k , nix ; { l [ 0 ] = 1 ; k [ 17 ] = 1 ; }", "fn f ( ) { let l : i8 [ 0 ] ; let k : i8 [ 99 ] ; l [ 0 ] = 1 ; k [ 5 ] = k [ 17 ] ; k [ 17 ] = 1 ; }", "global s : i8 = 300 ; fn f ( ) : i32 { return s ; }",
	} {
		p := tree(t, src)
		for fuel := range 12 {
			wantEnd(t, p, "f", nil, nil, nil, fuel)
			wantEnd(t, p, "f", nil, make([]api.Block, len(p.Globals)), []int{1, 2}, fuel)
		}
	}
}

// turn makes one thing of a tree, thrown by dice, into something else.
func turn(d *dice, v reflect.Value) {
	for {
		switch v.Kind() {
		case reflect.Slice:
			n := v.Len()
			if n == 0 || d.roll(12) == 0 {
				turnList(d, v)
				return
			}
			v = v.Index(d.roll(n))
		case reflect.Struct:
			v = v.Field(d.roll(v.NumField()))
		case reflect.String:
			v.SetString(pick(d, "", "f0", "f1", "s1", "s2", "p3", "p4", "v5", "w6", "result", "old s1"))
			return
		case reflect.Bool:
			v.SetBool(!v.Bool())
			return
		default:
			v.SetInt(pick(d, v.Int()+1, v.Int()-1, int64(d.roll(20)), -1, 0, math.MaxInt, math.MinInt, 1<<32, 16, 17))
			return
		}
	}
}

func turnList(d *dice, v reflect.Value) {
	n := v.Len()
	l := reflect.MakeSlice(v.Type(), 0, n+1)
	switch d.roll(3) {
	case 0:
		l = reflect.Append(l, reflect.Zero(v.Type().Elem()))
	case 1:
		l = reflect.AppendSlice(l, v.Slice(0, n/2))
	default:
		l = reflect.AppendSlice(l, v)
		if n > 0 {
			l = reflect.Append(l, v.Index(d.roll(n)))
		}
	}
	v.Set(l)
}

func TestTurnedProgramsComeToAnEnd(t *testing.T) {
	g := &grower{d: 21}
	var seen [6]int
	for range 4000 {
		src, p := g.grown(t)
		again := tree(t, src)
		for range 1 + g.d.roll(6) {
			turn(&g.d, reflect.ValueOf(&p).Elem())
		}
		for _, f := range slices.Clip(append(again.Funcs, p.Funcs...)) {
			args, globals, inputs := g.start(again, f)
			seen[wantEnd(t, p, f.Name, args, globals, inputs, pick(&g.d, 5, 50, 300))]++
		}
	}
	for end := api.EndDone; end <= api.EndNone; end++ {
		if seen[end] < 100 {
			t.Errorf("R1: %d runs end %s", seen[end], endNames[end])
		}
	}
}

// oddExprs are expressions of whatever nodes: none, of no kind, without their kids, with kids that there are not, in rings, of no type.
func oddExprs() [][]api.Expr {
	l := [][]api.Expr{nil, {}, {{}}, {{Kind: 99, Num: 7, T: -1, A: 1 << 40, B: -1 << 40}}, {{Kind: api.ENum, Num: math.MinInt, T: api.U32 + 1}}, {{Kind: api.EVar, Name: "nix"}}, {{Kind: api.EVar, Name: "a"}}, {{Kind: api.EElem, Name: "s", A: -1}}, {{Kind: api.EElem, Name: "a", A: 99}}}
	for kind := api.ENum; kind <= api.ECast; kind++ {
		l = append(l, []api.Expr{{Kind: kind, T: 77, Name: "a", A: 0, B: 0}}, []api.Expr{{Kind: api.ENum, Num: math.MaxInt, T: api.I8}, {Kind: kind, T: api.I8, Name: "a", A: 0, B: 2}, {Kind: kind, Name: "s", A: 1, B: 0}}, []api.Expr{{Kind: kind, Name: "a", A: 1, B: 1}, {Kind: kind, Name: "a", A: 0, B: 0}})
	}
	return l
}

// oddConds are conditions likewise, of odd expressions.
func oddConds() [][]api.Cond {
	l := [][]api.Cond{nil, {}, {{}}, {{Kind: 99, A: 0, B: 0}}}
	for i, x := range oddExprs() {
		l = append(l, []api.Cond{{Kind: api.CRel, Rel: i - 1, X: x, Y: oddExprs()[(i*7)%len(oddExprs())]}})
	}
	for _, kind := range []int{api.CNot, api.CAnd, api.COr} {
		for _, kids := range [][2]int{{0, 0}, {1, 1}, {2, 2}, {0, 2}, {2, 0}, {-1, 0}, {0, -1}, {99, math.MinInt}} {
			l = append(l, []api.Cond{{Kind: api.CRel, Rel: api.REq}, {Kind: kind, A: 0, B: 2}, {Kind: kind, A: kids[0], B: kids[1]}})
		}
		many := []api.Cond{{Kind: api.CRel, Rel: api.REq}}
		for k := range 1000 {
			many = append(many, api.Cond{Kind: kind, A: k, B: k})
		}
		l = append(l, many, many[:15])
	}
	return l
}

// TestWhateverBodiesAndContractsHold: each odd thing in each place that there is for it.
func TestWhateverBodiesAndContractsHold(t *testing.T) {
	globals := []api.Global{{Name: "s", T: api.I8, Init: 5}, {Name: "a", T: api.U8, Size: 2}}
	params := []api.Param{{Name: "x", T: api.I8}, {Name: "b", T: api.I8, Size: 2}}
	var seen [6]int
	end := func(f api.Func) {
		f.Name, f.T, f.Names = "f", api.I8, []string{"s"}
		g := f
		g.Name, g.Params = "g", params
		calls := api.Func{Name: "h", Body: []api.Stmt{{Kind: api.SCall, To: "f"}, {Kind: api.SCall, To: "g", Has: true, Name: "s", Args: [][]api.Expr{{{Kind: api.ENum, T: api.I32}}, {{Kind: api.EVar, Name: "a"}}}}}}
		p := api.Program{Globals: globals, Funcs: []api.Func{f, g, calls}}
		for _, fuel := range []int{0, 1, 2, 5, 200} {
			seen[wantEnd(t, p, "f", nil, nil, nil, fuel)]++
			seen[wantEnd(t, p, "h", nil, nil, []int{3}, fuel)]++
		}
	}
	one := []api.Stmt{{Kind: api.SInput, Name: "s"}}
	for _, c := range oddConds() {
		clauses := []api.Clause{{At: 5, C: c}, {At: -5, C: c}}
		end(api.Func{Requires: clauses, Body: one})
		end(api.Func{Ensures: clauses, Body: one})
		end(api.Func{Body: []api.Stmt{{Kind: api.SIf, C: c, Body: one, Else: one}, {Kind: api.SIf, C: c, Body: []api.Stmt{{Kind: api.SWhile, C: c, Inv: clauses, Body: one}}}}})
		end(api.Func{Body: []api.Stmt{{Kind: api.SAssert, C: c}}})
		end(api.Func{Body: []api.Stmt{{Kind: api.SWhile, C: c, Body: []api.Stmt{{Kind: api.SBreak}}}, {Kind: api.SWhile, C: c, Body: []api.Stmt{{Kind: api.SContinue}}}}})
	}
	for _, e := range oddExprs() {
		for kind := -1; kind <= api.SInput+1; kind++ {
			for _, name := range []string{"s", "a", "x", "nix", "v"} {
				s := api.Stmt{Kind: kind, Name: name, T: api.U8, X: e, E: e, Has: true, To: "g", Args: [][]api.Expr{e, e, e}}
				end(api.Func{Body: []api.Stmt{s, s}})
				s.T, s.Size, s.Has, s.To = 99, math.MaxInt, false, "f"
				end(api.Func{Body: []api.Stmt{s, {Kind: api.SLet, Name: "v", T: api.I32, E: e}, {Kind: api.SArray, Name: "v", T: -1, Size: math.MinInt}, s}})
			}
		}
	}
	for kind := api.EndDone; kind <= api.EndFail; kind++ {
		if seen[kind] < 100 {
			t.Errorf("R1: %d runs end %s", seen[kind], endNames[kind])
		}
	}
}

// TestArgumentsThatAreEmpty: lists without a node, for a scalar and for an array.
func TestArgumentsThatAreEmpty(t *testing.T) {
	for _, size := range []int{0, 2, -1} {
		p := api.Program{Funcs: []api.Func{
			{Name: "f", Body: []api.Stmt{{Kind: api.SArray, Name: "a", T: api.I8, Size: 2}, {Kind: api.SCall, To: "g", Args: [][]api.Expr{nil}}, {Kind: api.SCall, To: "g", Args: [][]api.Expr{{}}}}},
			{Name: "g", Params: []api.Param{{Name: "a", T: api.I8, Size: size}}},
		}}
		if end := wantEnd(t, p, "f", nil, nil, nil, 9); end != api.EndDone {
			t.Errorf("R1: empty arguments for a parameter of size %d: end %d", size, end)
		}
	}
}

// TestHas: it alone tells whether a call's result goes somewhere, and whether a return has a value.
func TestHas(t *testing.T) {
	p := mustProgram(t, "global s : i8 ; fn g ( ) : i8 { return 5 ; } fn f ( ) : i8 assigns s ; { call s = g ( ) ; return 7 ; }")
	for _, c := range []struct {
		call, back bool
		want       string
	}{
		{true, true, "return f 7; done 7 i8:5"}, {false, true, "return f 7; done 7 i8:0"}, {true, false, "return f 0; done 0 i8:5"}, {false, false, "return f 0; done 0 i8:0"},
	} {
		p.Funcs[1].Body[0].Has, p.Funcs[1].Body[1].Has = c.call, c.back
		if got := text(Run(p, "f", nil, nil, nil, 9), nil); got != "call f; call g; return g 5; "+c.want {
			t.Errorf("13.1: %+v: %s", c, got)
		}
	}
}

// nest is a statement of a kind, so many within one another.
func nest(kind, deep int) []api.Stmt {
	var l []api.Stmt
	one := []api.Expr{{Kind: api.ENum, Num: 1, T: api.I32, A: -1, B: -1}}
	for range deep {
		l = []api.Stmt{{Kind: kind, C: []api.Cond{{Kind: api.CRel, Rel: api.REq, X: one, Y: one}}, Body: l}}
	}
	return l
}

func TestDeeplyNested(t *testing.T) {
	for _, kind := range []int{api.SIf, api.SWhile} {
		for _, deep := range []int{api.MaxFuel / 2, 1<<16 - 10} {
			p := api.Program{Funcs: []api.Func{{Name: "f", Body: nest(kind, deep)}}}
			want := api.EndFuel
			if kind == api.SIf && deep <= api.MaxFuel {
				want = api.EndDone
			}
			if end := wantEnd(t, p, "f", nil, nil, nil, api.MaxFuel); end != want {
				t.Errorf("R1: %d of kind %d within one another: end %d", deep, kind, end)
			}
		}
	}
	// Each call nested within as many as the fuel allows.
	body := nest(api.SIf, 98)
	inner := &body[0]
	for len(inner.Body) > 0 {
		inner = &inner.Body[0]
	}
	inner.Body = []api.Stmt{{Kind: api.SCall, To: "f"}}
	if end := wantEnd(t, api.Program{Funcs: []api.Func{{Name: "f", Body: body}}}, "f", nil, nil, nil, api.MaxFuel); end != api.EndFuel {
		t.Errorf("R1: calls within nested statements: end %d", end)
	}
}

// TestMuchOfEverything: long lists, and as much as a run may do.
func TestMuchOfEverything(t *testing.T) {
	var p api.Program
	long := api.Func{Name: "long"}
	for range 1000 {
		p.Globals = append(p.Globals, api.Global{Name: "s", T: api.I8, Size: 16})
		long.Names = append(long.Names, "s")
		p.Funcs = append(p.Funcs, api.Func{Name: "g"})
	}
	for range api.MaxFuel {
		long.Body = append(long.Body, api.Stmt{Kind: api.SArray, Name: "a", T: api.I8, Size: 16})
	}
	p.Funcs = append(p.Funcs, long)
	if end := wantEnd(t, p, "long", nil, nil, make([]int, 1<<20), api.MaxFuel); end != api.EndDone {
		t.Errorf("R1: a long body: end %d", end)
	}
	if end := wantEnd(t, p, "g", nil, nil, nil, 0); end != api.EndDone {
		t.Errorf("R1: the first of many functions of one name: end %d", end)
	}
}

func TestManyBlocksAndManyCalls(t *testing.T) {
	const src = "fn g ( ) { } fn f ( n : i32 ) { let a : i32 [ 16 ] ; let b : i32 [ 16 ] ; let c : i32 [ 16 ] ; let d : i32 [ 16 ] ; let e : i32 [ 16 ] ; let h : i32 [ 16 ] ; if n > 0 { call f ( n - 1 ) ; } while 1 < 2 { call g ( ) ; } }"
	x := Run(mustProgram(t, src), "f", []int{60}, nil, nil, api.MaxFuel)
	// Eight of each f, but seven of the last one. What is left goes to heads, relations and calls by turns.
	left := api.MaxFuel - 60*8 - 7
	if x.End != api.EndFuel || len(x.Events) != 61+left/3*2 {
		t.Errorf("R1: end %d, %d events", x.End, len(x.Events))
	}
}
