package shape

import (
	"fmt"
	"slices"
	"strings"
	"testing"

	"calliper/api"
	"calliper/lower"
	"calliper/parse"
)

// instrs are those of a function's body.
func instrs(t *testing.T, body string) ([]api.Instr, int) {
	t.Helper()
	p, e, at := parse.Program("fn f ( ) { " + body + " }")
	if e != api.OK {
		t.Fatalf("%s: error %d at %d", body, e, at)
	}
	return lower.Lower(p.Funcs[0])
}

func graphOf(l []api.Instr) [][]int {
	g := make([][]int, len(l))
	for at := range l {
		g[at] = lower.Next(l, at)
	}
	return g
}

// headsOf are those of a body's instructions, each by the number in the relation of the loop that it is of.
func headsOf(t *testing.T, body string) string {
	t.Helper()
	l, entry := instrs(t, body)
	g := graphOf(l)
	if !Reducible(g, entry) {
		t.Errorf("12.3: %s: its instructions are not reducible", body)
	}
	var names []string
	for _, at := range Heads(g, entry) {
		name := fmt.Sprint("no head: ", at)
		if l[at].Kind == api.IHead {
			name = fmt.Sprint(l[l[at].Next].Y[0].Num)
		}
		names = append(names, name)
	}
	slices.Sort(names)
	return strings.Join(names, " ")
}

// TestHeadsOfFunctions: 12.3; a loop that nothing leads back to has none.
func TestHeadsOfFunctions(t *testing.T) {
	for _, c := range [][2]string{
		{"", ""},
		{"x = 1 ; y = 2 ;", ""},
		{"return ; x = 1 ;", ""},
		{"if x < 1 { y = 1 ; } else { y = 2 ; } z = 3 ;", ""},
		{"if x < 1 and y < 2 or not [ z < 3 or w < 4 ] { y = 1 ; return ; } z = 3 ;", ""},
		{"while x < 1 { }", "1"},
		{"while x < 1 { x = 2 ; } y = 3 ;", "1"},
		{"while x < 1 { if y < 8 { continue ; } x = 2 ; }", "1"},
		{"while x < 1 { if y < 8 { break ; } x = 2 ; }", "1"},
		{"while x < 1 { if y < 8 { return ; } x = 2 ; }", "1"},
		// Nothing leads back.
		{"while x < 1 { break ; }", ""},
		{"while x < 1 { return ; }", ""},
		{"while x < 1 { if y < 8 { break ; } else { return ; } x = 2 ; }", ""},
		{"while x < 1 { break ; continue ; }", ""},
		{"while x < 1 { continue ; break ; }", "1"},
		// It is not reached.
		{"return ; while x < 1 { }", ""},
		{"while x < 1 { continue ; while y < 2 { } }", "1"},
		{"while x < 1 { break ; while y < 2 { continue ; } }", ""},
		// Several.
		{"while x < 1 { } while y < 2 { }", "1 2"},
		{"while x < 1 { while y < 2 { } }", "1 2"},
		{"while x < 1 { while y < 2 { } break ; }", "2"},
		{"while x < 1 { while y < 2 { break ; } }", "1"},
		{"while x < 1 { while y < 2 { while z < 3 { if w < 8 { break ; } } continue ; } if w < 9 { break ; } }", "1 2 3"},
		{"if x < 8 { while y < 1 { } } else { while y < 2 { } } while z < 3 { }", "1 2 3"},
		{"while x < 1 { if x < 8 { while y < 2 { return ; } } else { while y < 3 { continue ; } } }", "1 3"},
		// Of conditions of several relations.
		{"while x < 1 and y < 8 { }", "1"},
		{"while x < 1 or not [ y < 8 and z < 9 ] { if x < 8 or y < 9 { break ; } }", "1"},
		// In no loop a continue leads nowhere.
		{"continue ; x = 1 ;", ""},
	} {
		if got := headsOf(t, c[0]); got != c[1] {
			t.Errorf("12.3: %s: heads of %q, want %q", c[0], got, c[1])
		}
	}
}

// TestHeadsWithInvariants: the head is the IHead, not what stands behind it.
func TestHeadsWithInvariants(t *testing.T) {
	l, entry := instrs(t, "while x < 1 invariant y < 2 ; invariant z < 3 ; { while w < 4 invariant y < 5 ; { } continue ; } u = 6 ;")
	heads := Heads(graphOf(l), entry)
	if len(heads) != 2 || l[heads[0]].Kind != api.IHead || l[heads[1]].Kind != api.IHead || entry != heads[0] {
		t.Errorf("12.3: heads %v, entry %d", heads, entry)
	}
	if got := Order(graphOf(l), entry); !slices.Equal(got[:3], []int{entry, len(l) - 1, len(l) - 2}) || len(got) != len(l) {
		t.Errorf("12.2: order %v", got)
	}
}

// TestHeadsOfTreesThatNoTextHas: with conditions that there are not, or of which nodes have kids in common.
func TestHeadsOfTreesThatNoTextHas(t *testing.T) {
	one := []api.Cond{{Kind: api.CRel, Rel: api.REq}}
	twice := slices.Clone(one)
	for k := range 9 {
		twice = append(twice, api.Cond{Kind: api.CAnd + k%2, A: k, B: k})
	}
	input := []api.Stmt{{Kind: api.SInput, Name: "x"}}
	for i, c := range []struct {
		s    api.Stmt
		want int
	}{
		{api.Stmt{Kind: api.SWhile, Body: input}, 0},
		{api.Stmt{Kind: api.SWhile, C: []api.Cond{{Kind: api.CNot, A: -1}}}, 1},
		{api.Stmt{Kind: api.SWhile, C: []api.Cond{{Kind: api.CNot, A: -1}}, Body: input}, 1},
		{api.Stmt{Kind: api.SWhile, C: twice, Body: input}, 1},
		{api.Stmt{Kind: api.SWhile, C: twice, Inv: []api.Clause{{}, {C: twice}}}, 1},
		{api.Stmt{Kind: api.SIf, C: twice, Body: input, Else: []api.Stmt{{Kind: api.SWhile, C: one}}}, 1},
		{api.Stmt{Kind: api.SContinue}, 0},
	} {
		l, entry := lower.Lower(api.Func{Body: []api.Stmt{c.s, {Kind: api.SReturn}}})
		heads := Heads(graphOf(l), entry)
		if len(heads) != c.want || !Reducible(graphOf(l), entry) {
			t.Errorf("12.3: case %d: heads %v; reducible: %v", i, heads, Reducible(graphOf(l), entry))
		}
		for _, at := range heads {
			if l[at].Kind != api.IHead {
				t.Errorf("12.3: case %d: head %d is none", i, at)
			}
		}
	}
}

// A writer grows bodies as text.
type writer struct {
	d dice
	strings.Builder
}

func (w *writer) relation() {
	if w.d.roll(4) == 0 {
		w.WriteString("not ")
	}
	w.WriteString("x < 1 ")
}

func (w *writer) cond() {
	w.relation()
	for range w.d.roll(3) {
		w.WriteString([]string{"and ", "or "}[w.d.roll(2)])
		w.relation()
	}
}

func (w *writer) block(deep int) {
	w.WriteString("{ ")
	for range w.d.roll(5) {
		w.stmt(deep)
	}
	w.WriteString("} ")
}

func (w *writer) stmt(deep int) {
	kind := w.d.roll(9)
	if deep == 0 && kind < 5 {
		kind = 5 + w.d.roll(4)
	}
	switch kind {
	case 0, 1:
		w.WriteString("if ")
		w.cond()
		w.block(deep - 1)
		if kind == 1 {
			w.WriteString("else ")
			w.block(deep - 1)
		}
	case 2, 3, 4:
		w.WriteString("while ")
		w.cond()
		for range w.d.roll(3) {
			w.WriteString("invariant y < 2 ; ")
		}
		w.block(deep - 1)
	case 5:
		w.WriteString([]string{"break ; ", "continue ; ", "return ; "}[w.d.roll(3)])
	default:
		w.WriteString("y = 3 ; ")
	}
}

// A looker finds in a tree the loops that are gone round, by where they stand.
type looker struct{ round []int }

// list tells whether it may go on behind statements, and whether to the loop around them.
func (k *looker) list(l []api.Stmt) (on, again bool) {
	for _, s := range l {
		switch s.Kind {
		case api.SIf:
			a, b := k.list(s.Body)
			c, d := k.list(s.Else)
			on, again = a || c, again || b || d
			if !on {
				return on, again
			}
		case api.SWhile:
			if a, b := k.list(s.Body); a || b {
				k.round = append(k.round, s.At)
			}
		case api.SBreak, api.SReturn:
			return false, again
		case api.SContinue:
			return false, true
		}
	}
	return true, again
}

// TestGrownFunctions: 12.3; and their heads are those of all loops that are gone round.
func TestGrownFunctions(t *testing.T) {
	w := &writer{d: 21}
	loops, others := 0, 0
	for range 1500 {
		w.Reset()
		w.block(4)
		p, e, at := parse.Program("fn f ( ) " + w.String())
		if e != api.OK {
			t.Fatalf("%s: error %d at %d", w.String(), e, at)
		}
		l, entry := lower.Lower(p.Funcs[0])
		g := graphOf(l)
		if len(g) > 400 {
			continue
		}
		var got []int
		for _, at := range Heads(g, entry) {
			if l[at].Kind != api.IHead {
				t.Fatalf("12.3: %s: head %d is none", w.String(), at)
			}
			got = append(got, l[at].At)
		}
		k := &looker{}
		k.list(p.Funcs[0].Body)
		slices.Sort(got)
		slices.Sort(k.round)
		if !slices.Equal(got, k.round) || !Reducible(g, entry) {
			t.Fatalf("12.3: %s: heads at %v, want %v; reducible: %v", w.String(), got, k.round, Reducible(g, entry))
		}
		loops += len(got)
		for _, i := range l {
			if i.Kind == api.IHead {
				others++
			}
		}
		if row := Order(g, entry); len(row) == 0 && len(l) > 0 && entry >= 0 || len(row) > 0 && row[0] != entry {
			t.Fatalf("12.2: %s: order %v from %d", w.String(), row, entry)
		}
	}
	if others -= loops; min(loops, others) < 500 {
		t.Errorf("12.3: %d heads, %d IHeads that are none", loops, others)
	}
}
