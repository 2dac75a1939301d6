package lower

import (
	"fmt"
	"maps"
	"slices"
	"testing"

	"calliper/api"
)

// A second reckoning: it goes from the first statement on, and knows things by where they stand in their source, not by places of instructions.

// A way tells where it goes on: a thing's place in its source, or -1.
type way func() int

// A reader finds what there is, in the order in which it is put, and where each thing goes on.
type reader struct {
	order []int
	to    map[int][2]int
	what  map[int]api.Instr // but for Next and Else
}

// first is where statements begin, without a look at what is put.
func first(l []api.Stmt, behind, brk, cont way) int {
	if len(l) == 0 {
		return behind()
	}
	switch s := l[0]; s.Kind {
	case api.SBreak:
		return brk()
	case api.SContinue:
		return cont()
	case api.SIf:
		return s.C[leftmost(s.C, len(s.C)-1)].At
	default:
		return s.At
	}
}

// leftmost is the relation that is asked first.
func leftmost(l []api.Cond, at int) int {
	for l[at].Kind != api.CRel {
		at = l[at].A
	}
	return at
}

func (r *reader) block(l []api.Stmt, behind, brk, cont way) {
	for i, s := range slices.Backward(l) {
		rest := func() int { return first(l[i+1:], behind, brk, cont) }
		r.stmt(s, rest, brk, cont)
	}
}

func (r *reader) stmt(s api.Stmt, rest, brk, cont way) {
	switch s.Kind {
	case api.SBreak, api.SContinue:
	case api.SIf:
		r.block(s.Else, rest, brk, cont)
		r.block(s.Body, rest, brk, cont)
		r.cond(s.C, len(s.C)-1, func() int { return first(s.Body, rest, brk, cont) }, func() int { return first(s.Else, rest, brk, cont) })
	case api.SWhile:
		head := func() int { return s.At }
		look := s.C[leftmost(s.C, len(s.C)-1)].At
		into := append(slices.Collect(func(yield func(int) bool) {
			for _, c := range s.Inv {
				if !yield(c.At) {
					return
				}
			}
		}), look)
		r.put(api.Instr{Kind: api.IHead, At: s.At}, into[0], -1)
		r.block(s.Body, head, rest, head)
		r.cond(s.C, len(s.C)-1, func() int { return first(s.Body, head, rest, head) }, rest)
		for i, c := range slices.Backward(s.Inv) {
			r.put(api.Instr{Kind: api.IInv, At: c.At, Clause: c}, into[i+1], -1)
		}
	default:
		c := s
		c.Inv, c.Names, c.Body, c.Else = nil, nil, nil, nil
		if s.Kind != api.SAssert {
			c.C = nil
		}
		next := -1
		if s.Kind != api.SReturn {
			next = rest()
		}
		r.put(api.Instr{Kind: api.IDo, At: s.At, S: c}, next, -1)
	}
}

func (r *reader) cond(l []api.Cond, at int, yes, no way) {
	n := l[at]
	right := func() int { return l[leftmost(l, n.B)].At }
	switch n.Kind {
	case api.CRel:
		r.put(api.Instr{Kind: api.IIf, At: n.At, Rel: n.Rel, X: n.X, Y: n.Y}, yes(), no())
	case api.CNot:
		r.cond(l, n.A, no, yes)
	case api.CAnd:
		r.cond(l, n.B, yes, no)
		r.cond(l, n.A, right, no)
	case api.COr:
		r.cond(l, n.B, yes, no)
		r.cond(l, n.A, yes, right)
	}
}

func (r *reader) put(i api.Instr, next, other int) {
	r.order = append(r.order, i.At)
	r.what[i.At] = i
	r.to[i.At] = [2]int{next, other}
}

func secondLower(f api.Func) ([]api.Instr, int) {
	r := &reader{to: map[int][2]int{}, what: map[int]api.Instr{}}
	end := func() int { return -1 }
	r.block(f.Body, end, end, end)
	place := func(at int) int { return slices.Index(r.order, at) }
	var l []api.Instr
	for _, at := range r.order {
		i := r.what[at]
		i.Next, i.Else = place(r.to[at][0]), place(r.to[at][1])
		l = append(l, i)
	}
	return l, place(first(f.Body, end, end, end))
}

func TestGrownBodiesAgainstASecondReckoning(t *testing.T) {
	g := &grower{d: 5}
	kinds := map[int]int{}
	for range 700 {
		f := g.function()
		l, entry := Lower(f)
		want, from := secondLower(f)
		if !alike(l, want) || entry != from {
			t.Fatalf("11.1: a grown body tells\n%s, want\n%s", text(l, entry, nil), text(want, from, nil))
		}
		for _, i := range l {
			kinds[i.Kind]++
		}
	}
	for kind := api.IDo; kind <= api.IHead; kind++ {
		if kinds[kind] < 500 {
			t.Errorf("11.1: %d instructions of kind %d", kinds[kind], kind)
		}
	}
}

// A walker tells what is met on a way through a body, by coins that are the same for the tree and for the instructions.
type walker struct {
	coins dice
	met   []string
}

// Where a walk goes behind a statement.
const (
	on = iota
	out
	again
	back
)

// full: the walk is long enough.
func (w *walker) full() bool { return len(w.met) >= 200 }

func (w *walker) meet(what string, at int) {
	if !w.full() {
		w.met = append(w.met, fmt.Sprint(what, at))
	}
}

func (w *walker) holds(l []api.Cond, at int) bool {
	switch n := l[at]; n.Kind {
	case api.CNot:
		return !w.holds(l, n.A)
	case api.CAnd:
		return w.holds(l, n.A) && w.holds(l, n.B)
	case api.COr:
		return w.holds(l, n.A) || w.holds(l, n.B)
	default:
		w.meet("if", n.At)
		return w.coins.roll(2) == 0
	}
}

func (w *walker) tree(l []api.Stmt) int {
	for _, s := range l {
		to := on
		switch s.Kind {
		case api.SIf:
			body := s.Else
			if w.holds(s.C, len(s.C)-1) {
				body = s.Body
			}
			to = w.tree(body)
		case api.SWhile:
			to = w.loop(s)
		case api.SBreak:
			to = out
		case api.SContinue:
			to = again
		default:
			w.meet("do", s.At)
			if s.Kind == api.SReturn {
				to = back
			}
		}
		if to != on {
			return to
		}
	}
	return on
}

func (w *walker) loop(s api.Stmt) int {
	for !w.full() {
		w.meet("head", s.At)
		for _, c := range s.Inv {
			w.meet("inv", c.At)
		}
		if !w.holds(s.C, len(s.C)-1) {
			break
		}
		if way := w.tree(s.Body); way == out {
			break
		} else if way == back {
			return back
		}
	}
	return on
}

// instrs walks by Next alone: where it may go on two ways, the coin takes one.
func (w *walker) instrs(l []api.Instr, at int) {
	for at >= 0 && !w.full() {
		i := l[at]
		w.meet([...]string{"none", "do", "if", "inv", "head"}[i.Kind], i.At)
		at = i.Next
		if i.Kind == api.IIf && w.coins.roll(2) != 0 {
			at = i.Else
		}
	}
}

// TestWalks: whatever holds on the way, the instructions meet what the tree meets.
func TestWalks(t *testing.T) {
	g := &grower{d: 6}
	long := 0
	for range 700 {
		f := g.function()
		l, entry := Lower(f)
		for coins := range dice(5) {
			a, b := walker{coins: coins}, walker{coins: coins}
			a.tree(f.Body)
			b.instrs(l, entry)
			if !slices.Equal(a.met, b.met) {
				t.Fatalf("11.1: a walk on a grown body meets\n%v, its instructions\n%v", a.met, b.met)
			}
			if len(a.met) > 10 {
				long++
			}
		}
	}
	if long < 500 {
		t.Errorf("11.1: %d walks are long", long)
	}
}

// each counts a body's statements without bodies, its relations, invariants and loops, by where they stand.
func each(body []api.Stmt, n map[int]int) {
	for _, s := range body {
		conds := s.C
		switch s.Kind {
		case api.SBreak, api.SContinue:
			continue
		case api.SIf:
			each(s.Body, n)
			each(s.Else, n)
		case api.SWhile:
			n[s.At]++
			each(s.Body, n)
			for _, c := range s.Inv {
				n[c.At]++
			}
		default:
			n[s.At]++
			conds = nil
		}
		for _, c := range conds {
			if c.Kind == api.CRel {
				n[c.At]++
			}
		}
	}
}

// TestEachOnce: 11.3.
func TestEachOnce(t *testing.T) {
	g := &grower{d: 7}
	for range 300 {
		f := g.function()
		l, _ := Lower(f)
		got, want := map[int]int{}, map[int]int{}
		for _, i := range l {
			got[i.At]++
		}
		each(f.Body, want)
		if !maps.Equal(got, want) {
			t.Fatalf("11.3: there stand %v, want %v", got, want)
		}
	}
}
