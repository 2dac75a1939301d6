package eval

import (
	"fmt"
	"slices"
	"strconv"
	"strings"
	"testing"

	"calliper/api"
	"calliper/memory"
	"calliper/parse"
)

var (
	typeNames = [...]string{"none", "i8", "u8", "i16", "u16", "i32", "u32"}
	ubNames   = [...]string{"", "over", "div", "shift", "index"}
)

// nameOf is how the tests write a number of a type, of an undefined behaviour.
func nameOf(names []string, n int) string {
	if n < 0 || n >= len(names) {
		return fmt.Sprint("number ", n)
	}
	return names[n]
}

// A thing is a name and what it has; of a lost one the block is not there.
type thing struct {
	name    string
	t, size int
	vals    []int
	lost    bool
}

// things are read from a text: `x:u8=200 a:i16[3]=1,-2,3 gone:i8`; a thing without a `=` is lost.
func things(text string) []thing {
	var l []thing
	for _, word := range strings.Fields(text) {
		var h thing
		head, vals, there := strings.Cut(word, "=")
		h.lost = !there
		h.name, head, _ = strings.Cut(head, ":")
		head, size, _ := strings.Cut(head, "[")
		h.t = slices.Index(typeNames[:], head)
		h.size, _ = strconv.Atoi(strings.TrimSuffix(size, "]"))
		for _, v := range strings.Split(vals, ",") {
			n, _ := strconv.Atoi(v)
			h.vals = append(h.vals, n)
		}
		l = append(l, h)
	}
	return l
}

// put makes a thing's block, and tells its Bind.
func put(m *memory.Mem, h thing) api.Bind {
	b := api.Bind{Name: h.name, T: h.t, Size: h.size, Id: 1000}
	if !h.lost {
		b.Id = m.Add(h.t, h.size)
		for at, v := range h.vals {
			m.Set(b.Id, at, v)
		}
	}
	return b
}

func putAll(l []thing) (*memory.Mem, []api.Bind) {
	m, binds := memory.New(), []api.Bind{}
	for _, h := range l {
		binds = append(binds, put(m, h))
	}
	return m, binds
}

// world is the things that there are, and those that there were.
func world(has, had string) Env {
	var e Env
	e.Mem, e.Binds = putAll(things(has))
	e.Old, e.Olds = putAll(things(had))
	return e
}

// unmark takes out the `@` that stands ahead of the token where the undefined behaviour is; without one it is at 0.
func unmark(src string) (string, int) {
	return strings.Replace(src, "@", "", 1), max(strings.Index(src, "@"), 0)
}

func mustCond(t *testing.T, src string) []api.Cond {
	t.Helper()
	l, e, at := parse.Cond(src)
	if e != api.OK {
		t.Fatalf("Cond(%.300q): error %d at %d", src, e, at)
	}
	return l
}

// mustExpr is an expression's list.
func mustExpr(t *testing.T, src string) []api.Expr {
	t.Helper()
	return mustCond(t, src+" == 0")[0].X
}

func answerText(v, t, ub int) string {
	return strings.TrimRight(fmt.Sprint(v, " ", nameOf(typeNames[:], t), " ", nameOf(ubNames[:], ub)), " ")
}

// A row is an expression, and its value, type, undefined behaviour: `5 i32`, `0 u8 index`; of a condition `true`, `false div`.
type row struct{ src, want string }

func wantValues(t *testing.T, e Env, rows []row) {
	t.Helper()
	for _, r := range rows {
		src, place := unmark(r.src)
		l := mustExpr(t, src)
		v, ty, ub, where := Value(l, len(l)-1, e)
		if got := answerText(v, ty, ub); got != r.want || where != place {
			t.Errorf("8.1: Value of %s: %s at %d, want %s", r.src, got, where, r.want)
		}
	}
}

func wantTests(t *testing.T, e Env, rows []row) {
	t.Helper()
	for _, r := range rows {
		src, place := unmark(r.src)
		l := mustCond(t, src)
		is, ub, where := Test(l, len(l)-1, e)
		if got := strings.TrimRight(fmt.Sprint(is, " ", nameOf(ubNames[:], ub)), " "); got != r.want || where != place {
			t.Errorf("8.2: Test of %s: %s at %d, want %s", r.src, got, where, r.want)
		}
	}
}

// wantNode is of lists made by hand.
func wantNode(t *testing.T, l []api.Expr, at int, e Env, want string, place int) {
	t.Helper()
	v, ty, ub, where := Value(l, at, e)
	if got := answerText(v, ty, ub); got != want || where != place {
		t.Errorf("8.1: Value of %v at %d: %s at %d, want %s at %d", l, at, got, where, want, place)
	}
}

// oneOfEach has scalars v1 to v6 and arrays a1 to a6 (of 3 places) of the types 1 to 6, all with the numbers that are given.
func oneOfEach(vals ...int) string {
	var words []string
	list := strings.Trim(strings.ReplaceAll(fmt.Sprint(vals), " ", ","), "[]")
	for ty := api.I8; ty <= api.U32; ty++ {
		words = append(words, fmt.Sprintf("v%d:%s=%d a%d:%s[3]=%s", ty, typeNames[ty], vals[0], ty, typeNames[ty], list))
	}
	return strings.Join(words, " ")
}

// dice are the same at each run of the tests.
type dice uint32

func (d *dice) roll(n int) int {
	*d = *d*1664525 + 1013904223
	return int(*d>>8) % n
}

func pick[T any](d *dice, l ...T) T { return l[d.roll(len(l))] }
