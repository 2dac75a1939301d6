package show

import (
	"reflect"
	"strings"
	"testing"

	"calliper/api"
	"calliper/parse"
)

// mustProgram, mustCond and mustExpr are what layer 3 makes of texts that are right.
func mustProgram(t *testing.T, s string) api.Program {
	t.Helper()
	p, e, at := parse.Program(s)
	if e != api.OK {
		t.Fatalf("Program(%.200q): error %d at %d", s, e, at)
	}
	return p
}

func mustCond(t *testing.T, s string) []api.Cond {
	t.Helper()
	c, e, at := parse.Cond(s)
	if e != api.OK {
		t.Fatalf("Cond(%.200q): error %d at %d", s, e, at)
	}
	return c
}

func mustExpr(t *testing.T, s string) []api.Expr {
	t.Helper()
	return mustCond(t, s+" == 0")[0].X
}

func wantPrint(t *testing.T, p api.Program, want string) {
	t.Helper()
	if s, e := Print(p); s != want || e != api.OK {
		t.Errorf("4.2: Print: error %d\n got %.400s\nwant %.400s", e, s, want)
	}
}

func wantError(t *testing.T, what string, p api.Program, want api.Errno) {
	t.Helper()
	if s, e := Print(p); s != "" || e != want {
		t.Errorf("4.2: Print of %.200s: error %d beside %.200q, not error %d", what, e, s, want)
	}
}

// wantText prints what src is parsed as, and holds 4.3 against it too.
func wantText(t *testing.T, src, want string) {
	t.Helper()
	p := mustProgram(t, src)
	wantPrint(t, p, want)
	again := mustProgram(t, want)
	if !Same(p, again) || !Same(again, p) || !alike(p, again) {
		t.Errorf("4.3: %.400s is not parsed as the same", want)
	}
	wantPrint(t, again, want)
}

// alike is a second way to tell what Same tells, by reflection.
func alike(a, b any) bool { return alikeValues(reflect.ValueOf(a), reflect.ValueOf(b)) }

func alikeValues(a, b reflect.Value) bool {
	switch a.Kind() {
	case reflect.Slice:
		if a.Len() != b.Len() {
			return false
		}
		for i := range a.Len() {
			if !alikeValues(a.Index(i), b.Index(i)) {
				return false
			}
		}
		return true
	case reflect.Struct:
		for i := range a.NumField() {
			if a.Type().Field(i).Name != "At" && !alikeValues(a.Field(i), b.Field(i)) {
				return false
			}
		}
		return true
	}
	return a.Interface() == b.Interface()
}

// copied is a value that shares no memory with v; turn is asked of each list ahead of what it has.
func copied[T any](v T, turn func(list reflect.Value) reflect.Value) T {
	out := reflect.New(reflect.TypeFor[T]()).Elem()
	out.Set(reflect.ValueOf(v))
	var renew func(v reflect.Value)
	renew = func(v reflect.Value) {
		switch v.Kind() {
		case reflect.Slice:
			l := reflect.MakeSlice(v.Type(), v.Len(), v.Len())
			reflect.Copy(l, v)
			v.Set(turn(l))
			for i := range v.Len() {
				renew(v.Index(i))
			}
		case reflect.Struct:
			for i := range v.NumField() {
				renew(v.Field(i))
			}
		}
	}
	renew(out)
	return out.Interface().(T)
}

func clone[T any](v T) T {
	return copied(v, func(l reflect.Value) reflect.Value { return l })
}

// fields is all fields and parts of lists within v, with how they are reached.
func fields(v reflect.Value, path string) (l []reflect.Value, paths []string) {
	var walk func(v reflect.Value, path string)
	walk = func(v reflect.Value, path string) {
		l, paths = append(l, v), append(paths, path)
		switch v.Kind() {
		case reflect.Slice:
			for i := range v.Len() {
				walk(v.Index(i), path+"[]")
			}
		case reflect.Struct:
			for i := range v.NumField() {
				walk(v.Field(i), path+"."+v.Type().Field(i).Name)
			}
		}
	}
	walk(v, path)
	return l, paths
}

// rich has every kind of global, parameter, clause, statement, condition and expression.
const rich = "global a : i8 = 0 ; global b : u8 [ 2 ] ; global c : u16 [ 3 ] = 5 ; global d : i32 = - 7 ; global e : u32 = 4294967295u ; " +
	"fn f ( x : i8 , y : u32 [ 4 ] ) : i16 requires x < 1 ; requires [ x <= 1 and x > 2 ] or [ not x >= 3 ] ; ensures result == old ( x ) ; ensures x != - 1 ; assigns a , b ; " +
	"{ let q : i8 = ( x + 1 ) - y [ x * 2 ] ; let r : i32 [ 16 ] ; q = ( x / 2u ) % ( x & 3 ) ; r [ x | 1 ] = ( x ^ 1 ) << ( x >> 1 ) ; call g ( ) ; call q = f ( u8 ( x ) , ~ x , 3 ) ; " +
	"if x < 1 { break ; } else { continue ; } if x < 1 { } while x < 1 { } while not [ not x < 1 ] invariant x < 1 ; invariant x == 2 ; assigns q , r ; { return ; } while x < 1 assigns nothing ; { return x ; } assert x < 1 ; input q ; } " +
	"fn g ( ) { }"

// dice are the same at each run of the tests.
type dice uint32

func (d *dice) roll(n int) int {
	*d = *d*1664525 + 1013904223
	return int(*d>>8) % n
}

func pick[T any](d *dice, l ...T) T { return l[d.roll(len(l))] }

// squeezed is a text of right tokens without the blanks that it can do without.
func squeezed(s string) string {
	for _, sign := range strings.Fields("( ) { } [ ] , ; : = == != < <= > >= << >> + - * / % & | ^ ~") {
		s = strings.ReplaceAll(s, " "+sign, sign)
		s = strings.ReplaceAll(s, sign+" ", sign)
	}
	return s
}
