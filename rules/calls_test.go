package rules

import (
	"reflect"
	"slices"
	"testing"

	"calliper/api"
)

// rich has every kind of thing that a tree has, and faults of every code.
const rich = "global g : i8 = 200 ; global h : u8 [ 17 ] ; global h : i8 [ 2 ] ; " +
	"fn f ( x : i8 , a : i8 [ 2 ] ) : i16 requires x < old ( 1 ) ; ensures result == old ( a [ x ] + old ( x ) ) ; ensures a [ 2 ] < q ; assigns a , z ; " +
	"{ let y : i8 = g + a ; let b : i8 [ 2 ] ; if not [ x < y and x < 1 ] or y < 1 { g = 1 ; } else { break ; } while x < 1 invariant a [ x ] < 1 ; assigns y , w ; { x = 2 ; let v : i8 = 1 ; call g = f ( v , b ) ; continue ; } " +
	"call f ( 1 ) ; call n ( b ) ; call x = f ( 1 , h ) ; assert b [ 9 ] < 1 ; input h ; a [ 0 ] = result ; return ; let y : i8 = 1 ; let w0 : i8 = 1 ; let w1 : i8 = 1 ; let w2 : i8 = 1 ; let w3 : i8 = 1 ; let w4 : i8 = 1 ; let w5 : i8 = 1 ; let w6 : i8 = 1 ; let w7 : i8 = 1 ; let w8 : i8 = 1 ; let w9 : i8 = 1 ; let u0 : i8 = 1 ; let u1 : i8 = 1 ; let u2 : i8 = 1 ; } " +
	"fn f ( ) { }"

func TestRichHasEachCode(t *testing.T) {
	var codes [api.FMany + 1]int
	for _, f := range Faults(mustProgram(t, rich)) {
		codes[f.Code]++
	}
	for code := api.FTwice; code <= api.FMany; code++ {
		if codes[code] == 0 {
			t.Error("no fault of code", codeName(code))
		}
	}
}

func TestSameAnswerToTheSameCall(t *testing.T) {
	g := &grower{d: 3}
	sources := []string{rich}
	for range 200 {
		sources = append(sources, g.program())
	}
	for _, src := range sources {
		p := mustProgram(t, src)
		faults, y := Faults(p), Layout(p, p.Funcs[0])
		for range 3 {
			if !slices.Equal(Faults(p), faults) || !reflect.DeepEqual(Layout(p, p.Funcs[0]), y) {
				t.Error("R1: another answer", src)
			}
		}
	}
}

func TestWhatIsHandedInStaysAsItIs(t *testing.T) {
	p := mustProgram(t, rich)
	before := clone(p)
	y := Layout(p, p.Funcs[0])
	layout := clone(y)
	Faults(p)
	l := mustExpr(t, "x + a [ y ] * - g")
	list := clone(l)
	Type(l, len(l)-1, y, api.I8)
	if !reflect.DeepEqual(clone(p), before) || !reflect.DeepEqual(clone(y), layout) || !reflect.DeepEqual(clone(l), list) {
		t.Error("R3: what was handed in was changed")
	}
}

// Room behind the end of lists that are handed in is not written into.
func TestSpareRoomStaysAsItIs(t *testing.T) {
	p := mustProgram(t, "global g : i8 ; fn f ( x : i8 ) { let y : i8 = x ; while x < 1 { let z : i8 = 1 ; z = 2 ; } }")
	globals := make([]api.Global, 1, 8)
	copy(globals, p.Globals)
	funcs := make([]api.Func, 1, 8)
	copy(funcs, p.Funcs)
	params := make([]api.Param, 1, 8)
	copy(params, funcs[0].Params)
	body := make([]api.Stmt, 2, 8)
	copy(body, funcs[0].Body)
	funcs[0].Params, funcs[0].Body = params, body
	q := api.Program{Globals: globals, Funcs: funcs}
	if l := Faults(q); len(l) != 0 {
		t.Error(l)
	}
	Layout(q, funcs[0])
	if globals[:8][1] != (api.Global{}) || funcs[:8][1].Name != "" || params[:8][1] != (api.Param{}) || body[:8][2].Kind != 0 {
		t.Error("R3: spare room was written into")
	}
}

func TestAnswersAreNewMemory(t *testing.T) {
	p := mustProgram(t, rich)
	f := p.Funcs[0]
	first, y := Faults(p), Layout(p, f)
	want, layout := slices.Clone(first), clone(y)
	clear(first[:cap(first)])
	clear(y.Vars[:cap(y.Vars)])
	if bindsText(y.Arrs) != bindsText(layout.Arrs) {
		t.Error("R3: two lists share memory")
	}
	clear(y.Arrs[:cap(y.Arrs)])
	if !slices.Equal(Faults(p), want) || !reflect.DeepEqual(clone(Layout(p, f)), layout) {
		t.Error("R3: an answer was kept")
	}
}

func TestNilAndEmptyListsAreOne(t *testing.T) {
	p := mustProgram(t, "global g : i8 ; fn f ( ) { while 1 < 2 assigns nothing ; { g = 1 ; } if 1 < 2 { } call f ( ) ; call f ( 1 ) ; return 1 ; }")
	q := clone(p)
	if !slices.Equal(Faults(p), Faults(q)) || !reflect.DeepEqual(Layout(p, p.Funcs[0]), Layout(q, q.Funcs[0])) {
		t.Error("R3:", Faults(p), Faults(q))
	}
	if len(Faults(api.Program{})) != 0 || len(Faults(api.Program{Globals: []api.Global{}, Funcs: []api.Func{}})) != 0 {
		t.Error("5.1: faults of a program of nothing")
	}
}

// Trees that layer 3 does not make: nothing is said but that a call ends, and does not panic.
func TestTreesThatLayerThreeDoesNotMake(t *testing.T) {
	d := dice(17)
	for range 20000 {
		p := mustProgram(t, rich)
		for range 1 + d.roll(4) {
			turnNumber(reflect.ValueOf(&p).Elem(), &d)
		}
		Faults(p)
		for _, f := range p.Funcs {
			y := Layout(p, f)
			for _, s := range f.Body {
				for at := -1; at <= len(s.E); at++ {
					Type(s.E, at, y, f.T)
				}
			}
		}
	}
}

// turnNumber gives some number within v another value.
func turnNumber(v reflect.Value, d *dice) {
	var l []reflect.Value
	var walk func(v reflect.Value)
	walk = func(v reflect.Value) {
		switch v.Kind() {
		case reflect.Int:
			l = append(l, v)
		case reflect.Slice:
			for i := range v.Len() {
				walk(v.Index(i))
			}
		case reflect.Struct:
			for i := range v.NumField() {
				walk(v.Field(i))
			}
		}
	}
	walk(v)
	pick(d, l...).SetInt(pick(d, int64(d.roll(20)), -1, -2, 1<<62, -1<<63, 1<<63-1))
}

// nest is a statement within so many others.
func nest(kind, deep int, s api.Stmt) api.Stmt {
	for range deep {
		s = api.Stmt{Kind: kind, Body: []api.Stmt{s}}
	}
	return s
}

func TestDeepTrees(t *testing.T) {
	const deep = 1<<16 - 8
	for _, kind := range []int{api.SIf, api.SWhile} {
		f := api.Func{Name: "f", Body: []api.Stmt{nest(kind, deep, api.Stmt{Kind: api.SSet, Name: "x", At: 7})}}
		p := api.Program{Funcs: []api.Func{f}}
		if l := Faults(p); len(l) != 1 || l[0] != (api.Fault{At: 7, Code: api.FNone, Name: "x"}) {
			t.Error("R1: faults of a deep tree", l)
		}
		f.Body[0] = nest(kind, deep, api.Stmt{Kind: api.SLet, Name: "x", T: api.U8})
		if got := bindsText(Layout(p, f).Vars); got != "x:2[0]#0" {
			t.Error("R1: layout of a deep tree", got)
		}
	}
}
