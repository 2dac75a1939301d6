package show

import (
	"reflect"
	"strings"
	"testing"

	"calliper/api"
)

func wantSame(t *testing.T, what string, a, b api.Program, want bool) {
	t.Helper()
	if Same(a, b) != want || Same(b, a) != want {
		t.Errorf("4.1: Same, of two that differ in %s: %v and %v, not %v", what, Same(a, b), Same(b, a), want)
	}
}

func TestSameOfEachField(t *testing.T) {
	p := mustProgram(t, rich)
	wantSame(t, "nothing", p, p, true)
	wantSame(t, "their memory", p, clone(p), true)
	_, paths := fields(reflect.ValueOf(&p).Elem(), "program")
	places := 0
	for i, path := range paths {
		q := clone(p)
		l, _ := fields(reflect.ValueOf(&q).Elem(), "program")
		switch v := l[i]; v.Kind() {
		case reflect.Int:
			v.SetInt(v.Int() + 1)
		case reflect.String:
			v.SetString(v.String() + "x")
		case reflect.Bool:
			v.SetBool(!v.Bool())
		default:
			continue
		}
		isPlace := strings.HasSuffix(path, ".At")
		if isPlace {
			places++
		}
		wantSame(t, path, p, q, isPlace)
	}
	if places < 100 {
		t.Errorf("only %d places were turned", places)
	}
}

func TestSameOfEachList(t *testing.T) {
	p := mustProgram(t, rich)
	_, paths := fields(reflect.ValueOf(&p).Elem(), "program")
	for i, path := range paths {
		turn := func(what string, want bool, how func(list reflect.Value)) {
			q := clone(p)
			l, _ := fields(reflect.ValueOf(&q).Elem(), "program")
			if l[i].Kind() == reflect.Slice {
				how(l[i])
				wantSame(t, path+", "+what, p, q, want)
			}
		}
		turn("one more", false, func(l reflect.Value) { l.Set(reflect.Append(l, reflect.Zero(l.Type().Elem()))) })
		v, _ := fields(reflect.ValueOf(&p).Elem(), "program")
		if v[i].Kind() != reflect.Slice || v[i].Len() == 0 {
			continue
		}
		turn("none", false, func(l reflect.Value) { l.Set(reflect.Zero(l.Type())) })
		turn("one less", false, func(l reflect.Value) { l.Set(l.Slice(0, l.Len()-1)) })
		turn("the first put out", false, func(l reflect.Value) { l.Set(l.Slice(1, l.Len())) })
		turn("the first one twice", false, func(l reflect.Value) {
			l.Set(reflect.AppendSlice(reflect.Append(reflect.Zero(l.Type()), l.Index(0)), l))
		})
		turn("spare room", true, func(l reflect.Value) {
			l.Set(reflect.Append(l, reflect.Zero(l.Type().Elem())).Slice(0, l.Len()))
		})
	}
}

// emptied is p with lists that are empty and not nil, or the other way round.
func emptied(p api.Program, isNil bool) api.Program {
	return copied(p, func(l reflect.Value) reflect.Value {
		if l.Len() > 0 {
			return l
		}
		if isNil {
			return reflect.Zero(l.Type())
		}
		return reflect.MakeSlice(l.Type(), 0, 3)
	})
}

func TestNilAndEmptyListsAreOne(t *testing.T) {
	for _, s := range []string{"", "global x:i8;", "fn f(){}", rich} {
		p := mustProgram(t, s)
		none, empty := emptied(p, true), emptied(p, false)
		wantSame(t, "nil and empty lists", none, empty, true)
		a, e1 := Print(none)
		b, e2 := Print(empty)
		if a != b || e1 != api.OK || e2 != api.OK {
			t.Errorf("4.2: Print of nil lists: %q, error %d; of empty ones: %q, error %d", a, e1, b, e2)
		}
	}
	call := func(l []api.Expr) api.Program {
		return api.Program{Funcs: []api.Func{{Body: []api.Stmt{{Args: [][]api.Expr{l}}}}}}
	}
	wantSame(t, "an argument that is nil or empty", call(nil), call([]api.Expr{}), true)
	if Expr(nil) != "" || Expr([]api.Expr{}) != "" {
		t.Error("4.2: Expr of an empty list is not empty")
	}
}

func TestSameOfSources(t *testing.T) {
	for _, c := range []struct {
		a, b string
		want bool
	}{
		{"", "# remark", true},
		{"global x:i8;", "\n global\tx : i8 = 0 ; ", true},
		{"fn f(){}global x:i8;", "global x:i8; fn f(){}", true},
		{"fn f()ensures x<1;requires x<2;{}", "fn f()requires x<2;ensures x<1;{}", true},
		{"fn f(){if x<1{}else{}}", "fn f(){if x<1{}}", true},
		{"fn f(){x=(1+2)+3;}", "fn f(){x=1+2+3;}", true},
		{"fn f(){x=1+(2+3);}", "fn f(){x=1+2+3;}", false},
		{"fn f(){while x<1 assigns nothing;{}}", "fn f(){while x<1{}}", false},
		{"fn f(){x=1;}", "fn f(){x=1u;}", false},
		{"global x:i8[2];", "global x:i8;", false},
		{"global x:i8;global y:i8;", "global y:i8;global x:i8;", false},
		{"fn f(){}fn g(){}", "fn g(){}fn f(){}", false},
		{"fn f()requires x<1;{}", "fn f()ensures x<1;{}", false},
		{"fn f(){if x<1{break;}}", "fn f(){if x<1{}else{break;}}", false},
		{"fn f(){assert x<1;}", "fn f(){assert x<=1;}", false},
	} {
		wantSame(t, c.a+" and "+c.b, mustProgram(t, c.a), mustProgram(t, c.b), c.want)
	}
}

// Same asks for no more than that the two are one: a tree that layer 3 does not make is the same as itself.
func TestSameOfWhatLayer3DoesNotMake(t *testing.T) {
	odd := api.Program{
		Globals: []api.Global{{Name: "if", T: 99, Size: -1}},
		Funcs:   []api.Func{{Body: []api.Stmt{{Kind: 77, E: []api.Expr{{Kind: -1, A: 5, B: 1 << 40}}, C: []api.Cond{{Kind: 9, A: 3}}}}}},
	}
	wantSame(t, "nothing", odd, clone(odd), true)
	other := clone(odd)
	other.Funcs[0].Body[0].E[0].B++
	wantSame(t, "B", odd, other, false)
	// As deep as what is handed in may be.
	deep := func(last int) api.Program {
		l := []api.Stmt{{Kind: last}}
		for range 1<<16 - 10 {
			l = []api.Stmt{{Kind: api.SIf, Body: l}}
		}
		return api.Program{Funcs: []api.Func{{Name: "f", Body: l}}}
	}
	wantSame(t, "nothing, far within", deep(1), deep(1), true)
	wantSame(t, "the last kind, far within", deep(1), deep(2), false)
}
