package rules

import (
	"fmt"
	"reflect"
	"strings"
	"testing"

	"calliper/api"
	"calliper/parse"
)

func mustProgram(t *testing.T, s string) api.Program {
	t.Helper()
	p, e, at := parse.Program(s)
	if e != api.OK {
		t.Fatalf("Program(%.300q): error %d at %d", s, e, at)
	}
	return p
}

// mustExpr is an expression's list; the root is its last node.
func mustExpr(t *testing.T, s string) []api.Expr {
	t.Helper()
	c, e, at := parse.Cond(s + " == 0")
	if e != api.OK {
		t.Fatalf("Cond(%.300q): error %d at %d", s, e, at)
	}
	return c[0].X
}

// unmark takes the marks out of a text (`@a `, `@b `, .. ahead of a token), and tells the mark of each place that has one.
func unmark(s string) (string, map[int]string) {
	marks := map[int]string{}
	for {
		at := strings.Index(s, "@")
		if at < 0 {
			return s, marks
		}
		marks[at] = s[at+1 : at+2]
		s = s[:at] + s[at+3:]
	}
}

func codeName(code int) string {
	names := []string{"", "twice", "none", "kind", "size", "init", "old", "result", "args", "loop", "write", "many"}
	if code < 1 || code >= len(names) {
		return fmt.Sprint(code)
	}
	return names[code]
}

// faultsText has each fault as code, name, and the mark of its place: `none(x)@a`.
func faultsText(l []api.Fault, marks map[int]string) string {
	var texts []string
	for _, f := range l {
		mark := marks[f.At]
		if mark == "" {
			mark = fmt.Sprint(f.At)
		}
		texts = append(texts, codeName(f.Code)+"("+f.Name+")@"+mark)
	}
	return strings.Join(texts, " ")
}

// A sample is a source with marks, and the faults that it has.
type sample struct{ src, want string }

func wantFaults(t *testing.T, promise string, samples []sample) {
	t.Helper()
	for _, c := range samples {
		src, marks := unmark(c.src)
		if got := faultsText(Faults(mustProgram(t, src)), marks); got != c.want {
			t.Errorf("%s: %s\n got %s\nwant %s", promise, c.src, got, c.want)
		}
	}
}

// bindsText has each bind as name, type, size and id: `x:1[0]#2`.
func bindsText(l []api.Bind) string {
	var texts []string
	for _, b := range l {
		texts = append(texts, fmt.Sprintf("%s:%d[%d]#%d", b.Name, b.T, b.Size, b.Id))
	}
	return strings.Join(texts, ", ")
}

// clone is a value that shares no memory with v, with empty lists for nil ones.
func clone[T any](v T) T {
	out := reflect.New(reflect.TypeFor[T]()).Elem()
	out.Set(reflect.ValueOf(v))
	var renew func(v reflect.Value)
	renew = func(v reflect.Value) {
		switch v.Kind() {
		case reflect.Slice:
			l := reflect.MakeSlice(v.Type(), v.Len(), v.Len())
			reflect.Copy(l, v)
			v.Set(l)
			for i := range v.Len() {
				renew(v.Index(i))
			}
		case reflect.Struct:
			for i := range v.NumField() {
				renew(v.Field(i))
			}
		}
	}
	renew(out)
	return out.Interface().(T)
}

// dice are the same at each run of the tests.
type dice uint32

func (d *dice) roll(n int) int {
	*d = *d*1664525 + 1013904223
	return int(*d>>8) % n
}

func pick[T any](d *dice, l ...T) T { return l[d.roll(len(l))] }
