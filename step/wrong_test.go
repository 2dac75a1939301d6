package step

import (
	"math"
	"reflect"
	"slices"
	"testing"

	"calliper/api"
)

// wantEnd: a run of whatever it is given comes to one of the ends, and keeps to what holds of that end.
func wantEnd(t *testing.T, p api.Program, entry string, args []int, globals []api.Block, inputs []int, fuel int) int {
	t.Helper()
	x := Run(p, entry, args, globals, inputs, fuel)
	bare := x.Result == 0 && len(x.Globals) == 0
	if x.End < api.EndDone || x.End > api.EndNone || x.End != api.EndDone && !bare || x.End == api.EndNone && len(x.Events) > 0 {
		t.Fatalf("R1: %s of %v, globals %v, inputs %v, fuel %d: %+v", entry, args, globals, inputs, fuel, x)
	}
	return x.End
}

// TestProgramsWithFaults: of sources that are against the rules of types.
func TestProgramsWithFaults(t *testing.T) {
	for _, src := range []string{
		"fn f ( ) { input x ; let y : i8 = 1 ; }", "fn f ( ) { x = 1 ; x = y + z [ 1 ] ; }", "fn f ( ) { x [ 3 ] = 1 ; }", "fn f ( ) { let x : i8 = 1 ; x [ 0 ] = 1 ; x [ 1 ] = 1 ; }", "fn f ( ) { let a : i8 [ 3 ] ; a = 1 ; input a ; a [ a ] = a ; }",
		"fn f ( ) { call nix ( ) ; call x = nix ( 1 / 0 ) ; }", "fn f ( ) { call f ( 1 ) ; }", "fn f ( ) { call g ( ) ; call g ( 1 , 2 , 3 ) ; } fn g ( x : i8 , y : i8 ) { x = y ; }", "fn f ( ) { call x = g ( ) ; let x : i8 = 1 ; call x = g ( ) ; } fn g ( ) { }",
		"fn f ( ) { call g ( 1 ) ; call g ( x ) ; let x : i8 = 1 ; call g ( x ) ; call g ( x + 1 ) ; let a : u8 [ 1 ] ; call g ( a ) ; } fn g ( a : i8 [ 2 ] ) { a [ 1 ] = 1 ; }", "global l : i8 [ 2 ] ; fn f ( ) { call g ( l , l ) ; } fn g ( a : i8 [ 2 ] , b : i8 [ 2 ] ) assigns a ; { a [ 1 ] = 1 ; b [ 0 ] = a [ 1 ] ; }",
		"fn f ( ) { break ; }", "fn f ( ) { if 1 < 2 { continue ; } }", "fn f ( ) { return 1 ; }", "fn f ( ) : i8 { return ; }", "fn f ( ) : i8 { call g ( ) ; } fn g ( ) { break ; }",
		"fn f ( ) requires result == old ( x ) ; ensures old ( old ( x ) ) == result ; { assert result == old ( y ) ; }", "fn f ( ) : i8 ensures result == old ( x [ 9 ] ) ; { }",
		"global f : i8 ; global f : i8 [ 2 ] ; fn f ( ) { f = 1 ; f [ 1 ] = 2 ; } fn f ( f : i8 ) { }", "fn f ( ) { let f : i8 = 1 ; let f : i8 [ 2 ] ; f [ 1 ] = f ; f = 1 ; }", "fn f ( ) { } fn f ( x : i8 ) { }",
		"global l : i8 [ 0 ] ; global k : i8 [ 99 ] ; fn f ( ) assigns l , k , nix ; { l [ 0 ] = 1 ; k [ 17 ] = 1 ; }", "fn f ( ) { let l : i8 [ 0 ] ; let k : i8 [ 99 ] ; l [ 0 ] = 1 ; k [ 5 ] = k [ 17 ] ; k [ 17 ] = 1 ; }", "global s : i8 = 300 ; fn f ( ) : i32 { return s ; }",
	} {
		p := tree(t, src)
		for fuel := range 12 {
			wantEnd(t, p, "f", nil, nil, nil, fuel)
			wantEnd(t, p, "f", nil, make([]api.Block, len(p.Globals)), []int{1, 2}, fuel)
		}
	}
}

// turn makes one thing of a tree, thrown by dice, into something else.
func turn(d *dice, v reflect.Value) {
	for {
		switch v.Kind() {
		case reflect.Slice:
			n := v.Len()
			if n == 0 || d.roll(12) == 0 {
				turnList(d, v)
				return
			}
			v = v.Index(d.roll(n))
		case reflect.Struct:
			v = v.Field(d.roll(v.NumField()))
		case reflect.String:
			v.SetString(pick(d, "", "f0", "f1", "s1", "s2", "p3", "p4", "v5", "w6", "result", "old s1"))
			return
		case reflect.Bool:
			v.SetBool(!v.Bool())
			return
		default:
			v.SetInt(pick(d, v.Int()+1, v.Int()-1, int64(d.roll(20)), -1, 0, math.MaxInt, math.MinInt, 1<<32, 16, 17))
			return
		}
	}
}

func turnList(d *dice, v reflect.Value) {
	n := v.Len()
	l := reflect.MakeSlice(v.Type(), 0, n+1)
	switch d.roll(3) {
	case 0:
		l = reflect.Append(l, reflect.Zero(v.Type().Elem()))
	case 1:
		l = reflect.AppendSlice(l, v.Slice(0, n/2))
	default:
		l = reflect.AppendSlice(l, v)
		if n > 0 {
			l = reflect.Append(l, v.Index(d.roll(n)))
		}
	}
	v.Set(l)
}

func TestTurnedProgramsComeToAnEnd(t *testing.T) {
	g := &grower{d: 21}
	var seen [6]int
	for range 4000 {
		src, p := g.grown(t)
		again := tree(t, src)
		for range 1 + g.d.roll(6) {
			turn(&g.d, reflect.ValueOf(&p).Elem())
		}
		for _, f := range slices.Clip(append(again.Funcs, p.Funcs...)) {
			args, globals, inputs := g.start(again, f)
			seen[wantEnd(t, p, f.Name, args, globals, inputs, pick(&g.d, 5, 50, 300))]++
		}
	}
	for end := api.EndDone; end <= api.EndNone; end++ {
		if seen[end] < 100 {
			t.Errorf("R1: %d runs end %s", seen[end], endNames[end])
		}
	}
}

// TestArgumentsThatAreEmpty: lists without a node, for a scalar and for an array.
func TestArgumentsThatAreEmpty(t *testing.T) {
	for _, size := range []int{0, 2, -1} {
		p := api.Program{Funcs: []api.Func{
			{Name: "f", Body: []api.Stmt{{Kind: api.SArray, Name: "a", T: api.I8, Size: 2}, {Kind: api.SCall, To: "g", Args: [][]api.Expr{nil}}, {Kind: api.SCall, To: "g", Args: [][]api.Expr{{}}}}},
			{Name: "g", Params: []api.Param{{Name: "a", T: api.I8, Size: size}}},
		}}
		if end := wantEnd(t, p, "f", nil, nil, nil, 9); end != api.EndDone {
			t.Errorf("R1: empty arguments for a parameter of size %d: end %d", size, end)
		}
	}
}

// TestHas: it alone tells whether a call's result goes somewhere, and whether a return has a value.
func TestHas(t *testing.T) {
	p := mustProgram(t, "global s : i8 ; fn g ( ) : i8 { return 5 ; } fn f ( ) : i8 assigns s ; { call s = g ( ) ; return 7 ; }")
	for _, c := range []struct {
		call, back bool
		want       string
	}{
		{true, true, "return f 7; done 7 i8:5"}, {false, true, "return f 7; done 7 i8:0"}, {true, false, "return f 0; done 0 i8:5"}, {false, false, "return f 0; done 0 i8:0"},
	} {
		p.Funcs[1].Body[0].Has, p.Funcs[1].Body[1].Has = c.call, c.back
		if got := text(Run(p, "f", nil, nil, nil, 9), nil); got != "call f; call g; return g 5; "+c.want {
			t.Errorf("10.3: %+v: %s", c, got)
		}
	}
}

// nest is a statement of a kind, so many within one another.
func nest(kind, deep int) []api.Stmt {
	var l []api.Stmt
	one := []api.Expr{{Kind: api.ENum, Num: 1, T: api.I32, A: -1, B: -1}}
	for range deep {
		l = []api.Stmt{{Kind: kind, C: []api.Cond{{Kind: api.CRel, Rel: api.REq, X: one, Y: one}}, Body: l}}
	}
	return l
}

func TestDeeplyNested(t *testing.T) {
	for _, kind := range []int{api.SIf, api.SWhile} {
		for _, deep := range []int{api.MaxFuel / 2, 1<<16 - 10} {
			p := api.Program{Funcs: []api.Func{{Name: "f", Body: nest(kind, deep)}}}
			want := api.EndFuel
			if kind == api.SIf && deep <= api.MaxFuel {
				want = api.EndDone
			}
			if end := wantEnd(t, p, "f", nil, nil, nil, api.MaxFuel); end != want {
				t.Errorf("R1: %d of kind %d within one another: end %d", deep, kind, end)
			}
		}
	}
	// Each call nested within as many as the fuel allows.
	body := nest(api.SIf, 98)
	inner := &body[0]
	for len(inner.Body) > 0 {
		inner = &inner.Body[0]
	}
	inner.Body = []api.Stmt{{Kind: api.SCall, To: "f"}}
	if end := wantEnd(t, api.Program{Funcs: []api.Func{{Name: "f", Body: body}}}, "f", nil, nil, nil, api.MaxFuel); end != api.EndFuel {
		t.Errorf("R1: calls within nested statements: end %d", end)
	}
}

// TestMuchOfEverything: long lists, and as much as a run may do.
func TestMuchOfEverything(t *testing.T) {
	var p api.Program
	long := api.Func{Name: "long"}
	for range 1000 {
		p.Globals = append(p.Globals, api.Global{Name: "s", T: api.I8, Size: 16})
		long.Names = append(long.Names, "s")
		p.Funcs = append(p.Funcs, api.Func{Name: "g"})
	}
	for range api.MaxFuel {
		long.Body = append(long.Body, api.Stmt{Kind: api.SArray, Name: "a", T: api.I8, Size: 16})
	}
	p.Funcs = append(p.Funcs, long)
	if end := wantEnd(t, p, "long", nil, nil, make([]int, 1<<20), api.MaxFuel); end != api.EndDone {
		t.Errorf("R1: a long body: end %d", end)
	}
	if end := wantEnd(t, p, "g", nil, nil, nil, 0); end != api.EndDone {
		t.Errorf("R1: the first of many functions of one name: end %d", end)
	}
}

func TestManyBlocksAndManyCalls(t *testing.T) {
	const src = "fn g ( ) { } fn f ( n : i32 ) { let a : i32 [ 16 ] ; let b : i32 [ 16 ] ; let c : i32 [ 16 ] ; let d : i32 [ 16 ] ; let e : i32 [ 16 ] ; let h : i32 [ 16 ] ; if n > 0 { call f ( n - 1 ) ; } while 1 < 2 { call g ( ) ; } }"
	x := Run(mustProgram(t, src), "f", []int{60}, nil, nil, api.MaxFuel)
	// Eight of each f: of the last one's while its own alone. What is left goes to looks and calls by turns.
	left := api.MaxFuel - 61*8
	if x.End != api.EndFuel || len(x.Events) != 61+left/2*2 {
		t.Errorf("R1: end %d, %d events", x.End, len(x.Events))
	}
}
