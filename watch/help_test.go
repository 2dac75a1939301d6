package watch

import (
	"math"
	"reflect"
	"slices"
	"strconv"
	"strings"
	"testing"

	"calliper/api"
	"calliper/eval"
	"calliper/memory"
	"calliper/parse"
)

// typeNumber is the type of a name as the tests write it; another text is a number that is no type.
func typeNumber(s string) int {
	names := []string{"none", "i8", "u8", "i16", "u16", "i32", "u32"}
	if t := slices.Index(names, s); t > 0 {
		return t
	}
	n, _ := strconv.Atoi(s)
	return n
}

// mem is read from a text of blocks: `u8:1,2 i32:-5`; `nil` is none.
func mem(text string) *memory.Mem {
	if text == "nil" {
		return nil
	}
	m := memory.New()
	for _, word := range strings.Fields(text) {
		t, list, _ := strings.Cut(word, ":")
		vals := strings.Split(list, ",")
		id := m.Add(typeNumber(t), len(vals))
		for at, v := range vals {
			n, _ := strconv.Atoi(v)
			m.Set(id, at, n)
		}
	}
	return m
}

// blocks are all that a memory has.
func blocks(m *memory.Mem) []api.Block {
	var l []api.Block
	for id := range m.Len() {
		b, _ := m.Block(id)
		l = append(l, b)
	}
	return l
}

func sameBlock(a, b api.Block) bool { return a.T == b.T && slices.Equal(a.Vals, b.Vals) }

// bind names the blocks of a memory in order; those of several values are arrays.
func bind(m *memory.Mem, names ...string) []api.Bind {
	var l []api.Bind
	for id, name := range names {
		b, _ := m.Block(id)
		size := len(b.Vals)
		if size == 1 {
			size = 0
		}
		l = append(l, api.Bind{Name: name, T: b.T, Size: size, Id: id})
	}
	return l
}

// env has x 5, a 1 2 3; they were 7, and 4 5 6; the result is 9, of type i16.
func env() eval.Env {
	e := eval.Env{Mem: mem("i32:5 u8:1,2,3"), Old: mem("u8:4,5,6 i32:7"), Result: 9, T: api.I16}
	e.Binds, e.Olds = bind(e.Mem, "x", "a"), bind(e.Old, "a", "x")
	return e
}

// none is how the tests write a clause without a condition.
const none = "-"

func mustCond(t *testing.T, src string) []api.Cond {
	t.Helper()
	if src == none {
		return nil
	}
	l, e, at := parse.Cond(src)
	if e != api.OK {
		t.Fatalf("Cond(%q): error %d at %d", src, e, at)
	}
	return l
}

// atOf is the place of the nth clause of a list: no two are one, and they do not rise.
func atOf(n int) int { return 1000 - 7*n }

func mustClauses(t *testing.T, srcs []string) []api.Clause {
	t.Helper()
	var l []api.Clause
	for n, src := range srcs {
		l = append(l, api.Clause{At: atOf(n), C: mustCond(t, src)})
	}
	return l
}

// cloneClauses are the same, down to the nodes of expressions.
func cloneClauses(l []api.Clause) []api.Clause {
	l = slices.Clone(l)
	for i := range l {
		l[i].C = slices.Clone(l[i].C)
		for j := range l[i].C {
			c := &l[i].C[j]
			c.X, c.Y = slices.Clone(c.X), slices.Clone(c.Y)
		}
	}
	return l
}

// wantEvents: one event of each of ns, with the clause's place, the kind, and the number; true, if none of them is 0.
func wantEvents(t *testing.T, l []api.Clause, kind int, e eval.Env, ns []int) {
	t.Helper()
	var want []api.Event
	for i, n := range ns {
		want = append(want, api.Event{Kind: api.EvCheck, At: l[i].At, K: kind, N: n})
	}
	got, ok := Clauses(l, kind, e)
	if ok == slices.Contains(ns, 0) || len(got) != len(want) || len(want) > 0 && !reflect.DeepEqual(got, want) {
		t.Errorf("9.1: Clauses of %v: %v, %v, want %v", l, got, ok, want)
	}
}

func wantChanged(t *testing.T, promise string, before, now *memory.Mem, ids, may []int, want int) {
	t.Helper()
	if got := Changed(before, now, ids, may); got != want {
		t.Errorf("%s: Changed of %v, now %v, ids %v, may %v: %d, want %d", promise, blocks(before), blocks(now), ids, may, got, want)
	}
}

// far are numbers below 0 and far out: none of them is an Id here, and some have lower bits of one.
func far() []int {
	return []int{-1, -2, -3, -1 << 31, -1 << 32, math.MinInt, math.MinInt + 1, 100, 256, 1 << 16, 1 << 31, 1 << 32, 1<<32 + 1, 1 << 62, math.MaxInt}
}

// dice are the same at each run of the tests.
type dice uint32

func (d *dice) roll(n int) int {
	*d = *d*1664525 + 1013904223
	return int(*d>>8) % n
}

func pick[T any](d *dice, l ...T) T { return l[d.roll(len(l))] }
