package lower

import (
	"reflect"
	"slices"
	"testing"

	"calliper/api"
)

// doubled is a condition of which each node has the one ahead of it for both its kids, n times.
func doubled(first api.Cond, kind, n int) []api.Cond {
	l := []api.Cond{first}
	for k := range n {
		l = append(l, api.Cond{Kind: kind, A: k, B: k, At: 1000 + k})
	}
	return l
}

func ifOf(l []api.Cond) api.Stmt {
	return api.Stmt{Kind: api.SIf, C: l, Body: []api.Stmt{{Kind: api.SInput, At: 1}}, Else: []api.Stmt{{Kind: api.SInput, At: 2}}}
}

// TestKidsOfSeveralParents: a relation that there are several ways to stands there once for each.
func TestKidsOfSeveralParents(t *testing.T) {
	wantCond(t, doubled(rel(5, 6), api.CAnd, 1), "2 if@5 6<=7 > 1|0; 3 if@5 6<=7 > 2|0; from 3")
	wantCond(t, doubled(rel(5, 6), api.COr, 1), "2 if@5 6<=7 > 1|0; 3 if@5 6<=7 > 1|2; from 3")
	wantCond(t, []api.Cond{rel(5, 6), {Kind: api.CNot, A: 0}, {Kind: api.COr, A: 0, B: 1}}, "2 if@5 6<=7 > 0|1; 3 if@5 6<=7 > 1|2; from 3")
	wantCond(t, []api.Cond{rel(5, 6), {Kind: api.CNot, A: 0}, {Kind: api.CAnd, A: 1, B: 0}}, "2 if@5 6<=7 > 1|0; 3 if@5 6<=7 > 0|2; from 3")
	for n := range 19 {
		for _, kind := range []int{api.CAnd, api.COr} {
			l, entry := Lower(api.Func{Body: []api.Stmt{ifOf(doubled(api.Cond{Kind: api.CRel, Rel: api.RNe, At: 7}, kind, n))}})
			if len(l) != 1<<n+2 || entry != 1<<n+1 {
				t.Fatalf("11.1: of 2 to %d ways: %d instructions, entry %d", n, len(l), entry)
			}
			for at := 2; at < len(l); at++ {
				next, other := at-1, 0
				if kind == api.COr && at > 2 {
					next, other = 1, at-1
				}
				if i := l[at]; i.Kind != api.IIf || i.At != 7 || i.Rel != api.RNe || i.Next != next || i.Else != other {
					t.Fatalf("11.1: of 2 to %d ways, at %d: %s", n, at, instrText(i, nil))
				}
			}
		}
	}
}

// TestLongSidesOfSeveralParents: what is told once more is told whole, and is a list of its own.
func TestLongSidesOfSeveralParents(t *testing.T) {
	side := make([]api.Expr, 1<<9)
	for i := range side {
		side[i].Num = i
	}
	for _, first := range []api.Cond{{Kind: api.CRel, X: side}, {Kind: api.CRel, Y: side}, {Kind: api.CRel, X: side[:300], Y: side[1:]}} {
		l, _ := Lower(api.Func{Body: []api.Stmt{{Kind: api.SIf, C: doubled(first, api.CAnd, 11)}}})
		if len(l) != 1<<11 {
			t.Fatalf("11.1: of 2 to 11 ways: %d instructions", len(l))
		}
		for _, i := range l {
			if !slices.Equal(i.X, first.X) || !slices.Equal(i.Y, first.Y) {
				t.Fatalf("11.1: sides of %d and %d nodes, want %d and %d", len(i.X), len(i.Y), len(first.X), len(first.Y))
			}
			clear(i.X)
			clear(i.Y)
		}
		if side[5].Num != 5 {
			t.Fatal("R3: what was handed in is another one now")
		}
	}
}

// TestSeveralConditionsOfSeveralParents: each of a function's conditions stands there whole.
func TestSeveralConditionsOfSeveralParents(t *testing.T) {
	const n, each = 60, 1 << 12
	var body []api.Stmt
	for k := range n {
		c := doubled(api.Cond{Kind: api.CRel, At: k}, api.CAnd+k%2, 12)
		body = append(body, api.Stmt{Kind: api.SIf, C: c})
		if k%3 == 0 {
			body[k] = api.Stmt{Kind: api.SWhile, At: 99, C: c}
		}
	}
	l, entry := Lower(api.Func{Body: body})
	if len(l) != n*each+n/3 {
		t.Fatalf("11.1: %d instructions", len(l))
	}
	counts, heads := make([]int, n), 0
	for _, i := range l {
		if i.Kind == api.IHead {
			heads++
			continue
		}
		counts[i.At]++
	}
	for k, count := range counts {
		if count != each {
			t.Errorf("11.1: of condition %d: %d instructions", k, count)
		}
	}
	if heads != n/3 || l[entry].Kind != api.IHead {
		t.Errorf("11.1: %d heads, entry %d", heads, entry)
	}
}

// TestManyNodesThatPutNothing: whatever they are, they are not gone through once more for each way.
func TestManyNodesThatPutNothing(t *testing.T) {
	const long, n = 1 << 18, 14
	for _, c := range []struct {
		by    api.Cond
		empty bool // whether nothing leads into what is put
	}{
		{api.Cond{Kind: api.CNot, B: -1}, false}, {api.Cond{Kind: api.CAnd, B: -1}, false}, {api.Cond{Kind: api.COr, B: -1}, false}, {api.Cond{Kind: api.CAnd, A: -1}, true}, {api.Cond{Kind: api.COr, A: -1}, false},
	} {
		l := []api.Cond{rel(5, 6)}
		for k := range long {
			node := c.by
			if node.A == 0 {
				node.A = k
			} else {
				node.B = k
			}
			l = append(l, node)
		}
		for range n {
			l = append(l, api.Cond{Kind: api.COr, A: len(l) - 1, B: len(l) - 1})
		}
		is, entry := Lower(api.Func{Body: []api.Stmt{ifOf(l)}})
		if len(is) != 1<<n+2 || (entry == 0) != c.empty {
			t.Errorf("11.1: nodes of kind %d to %d, %d: %d instructions, entry %d", c.by.Kind, c.by.A, c.by.B, len(is), entry)
		}
	}
	// No relation hangs on these, though there are more ways through them than could be gone.
	for _, kind := range []int{api.CAnd, api.COr} {
		none := doubled(api.Cond{}, kind, 1000)
		wantCond(t, none, "from 0")
		wantCond(t, append(none, api.Cond{Kind: api.CNot, A: 1000}), "from 1")
		wantCond(t, append(slices.Clone(none), rel(5, 6), api.Cond{Kind: api.COr, A: 1000, B: 1001}), "2 if@5 6<=7 > 1|0; from 2")
	}
}

// TestKidsBehindTheirParents: a kid counts wherever it stands, but not within itself.
func TestKidsBehindTheirParents(t *testing.T) {
	wantCond(t, []api.Cond{{Kind: api.CNot, A: 1}, rel(5, 6), {Kind: api.CNot, A: 0}}, "2 if@5 6<=7 > 1|0; from 2")
	wantCond(t, []api.Cond{{Kind: api.CAnd, A: 2, B: 1}, rel(5, 6), rel(7, 8), {Kind: api.CNot, A: 0}}, "2 if@5 6<=7 > 0|1; 3 if@7 8<=9 > 2|1; from 3")
	wantCond(t, []api.Cond{{Kind: api.CNot, A: 1}, {Kind: api.CNot, A: 0}}, "from 0")
	// Of rings nothing is said, but that they end.
	for n := 1; n < 60; n++ {
		l := make([]api.Cond, n)
		for at := range l {
			l[at] = api.Cond{Kind: api.CRel + at%4, A: (at + 1) % n, B: (at * 7) % n}
		}
		Lower(api.Func{Body: []api.Stmt{ifOf(l), {Kind: api.SWhile, C: l}}})
	}
}

// words puts conditions word for word as 11.1 says, each node once for each way that leads to it.
type words struct{ l []api.Instr }

func (w *words) cond(l []api.Cond, at, yes, no int) int {
	if at < 0 || at >= len(l) {
		return no
	}
	switch n := l[at]; n.Kind {
	case api.CRel:
		w.l = append(w.l, api.Instr{Kind: api.IIf, At: n.At, Rel: n.Rel, X: n.X, Y: n.Y, Next: yes, Else: no})
		return len(w.l) - 1
	case api.CNot:
		return w.cond(l, n.A, no, yes)
	case api.CAnd:
		return w.cond(l, n.A, w.cond(l, n.B, yes, no), no)
	case api.COr:
		return w.cond(l, n.A, yes, w.cond(l, n.B, yes, no))
	}
	return no
}

// shuffled are nodes in another order, but for the last one.
func shuffled(d *dice, l []api.Cond) []api.Cond {
	to := make([]int, len(l))
	for i := range to {
		to[i] = i
	}
	for i := len(to) - 2; i > 0; i-- {
		j := d.roll(i + 1)
		to[i], to[j] = to[j], to[i]
	}
	place := func(kid int) int {
		if kid < 0 || kid >= len(l) {
			return kid
		}
		return to[kid]
	}
	other := make([]api.Cond, len(l))
	for i, n := range l {
		n.A, n.B = place(n.A), place(n.B)
		other[to[i]] = n
	}
	return other
}

// TestGrownNodes: lists of nodes with kids in common, with kids that there are not, of no kind, in order and not.
func TestGrownNodes(t *testing.T) {
	d, many := dice(11), 0
	for range 20000 {
		var l []api.Cond
		for at := range 1 + d.roll(20) {
			n := rel(10+at, at)
			if at > 0 {
				n.Kind = pick(&d, api.CRel, api.CNot, api.CAnd, api.COr, api.CAnd, api.COr)
				n.A, n.B = at-1-d.roll(min(at, 2)), at-1-d.roll(min(at, 5))
			}
			if d.roll(30) == 0 {
				n.Kind = 0
			}
			if d.roll(9) == 0 {
				n.A = pick(&d, -1, 99)
			}
			if d.roll(9) == 0 {
				n.B = pick(&d, -1, 99)
			}
			l = append(l, n)
		}
		ahead := []api.Instr{{Kind: api.IDo, At: 2, S: api.Stmt{Kind: api.SInput, At: 2}, Next: -1, Else: -1}, {Kind: api.IDo, At: 1, S: api.Stmt{Kind: api.SInput, At: 1}, Next: -1, Else: -1}}
		w := &words{l: ahead}
		from := w.cond(l, len(l)-1, 1, 0)
		if len(w.l) > 50 {
			many++
		}
		for _, l := range [][]api.Cond{l, shuffled(&d, l)} {
			is, entry := Lower(api.Func{Body: []api.Stmt{ifOf(l)}})
			if entry != from || len(is) != len(w.l) || len(is) < 30 && !alike(is, w.l) {
				t.Fatalf("11.1: %+v tells\n%s, want\n%s", l, text(is, entry, nil), text(w.l, from, nil))
			}
			for at, i := range is {
				if i.At != w.l[at].At || i.Next != w.l[at].Next || i.Else != w.l[at].Else {
					t.Fatalf("11.1: %+v tells at %d %s, want %s", l, at, instrText(i, nil), instrText(w.l[at], nil))
				}
			}
		}
	}
	if many < 100 {
		t.Errorf("11.1: %d of the grown lists make many instructions", many)
	}
}

// TestMoreThanAnAnswerHas: such calls end; what is just less is told.
func TestMoreThanAnAnswerHas(t *testing.T) {
	if instrBytes != reflect.TypeFor[api.Instr]().Size() || exprBytes != reflect.TypeFor[api.Expr]().Size() {
		t.Fatalf("an instruction takes %d, a node %d", reflect.TypeFor[api.Instr]().Size(), reflect.TypeFor[api.Expr]().Size())
	}
	sides := make([]api.Expr, 1<<12)
	for _, c := range []struct {
		first api.Cond
		n     int // so many doublings are what an answer may have
	}{{api.Cond{Kind: api.CRel}, 22}, {api.Cond{Kind: api.CRel, X: sides}, 12}, {api.Cond{Kind: api.CRel, X: sides[:10], Y: sides[10:]}, 12}} {
		for n := c.n - 1; n < 1000; n++ {
			l := doubled(c.first, api.CAnd, n)
			if fits := find(l).of(n).bytes <= most; fits != (n <= c.n) {
				t.Fatalf("limits: whether %d doublings are told: %v", n, fits)
			}
			if n > c.n {
				wantCond(t, l, "from 0")
			}
		}
	}
	// What there is room for goes by all of a call's conditions.
	b := &builder{left: 3 * (instrBytes + exprBytes)}
	two := doubled(api.Cond{Kind: api.CRel, X: sides[:1]}, api.CAnd, 1)
	for i, c := range []struct {
		l    []api.Cond
		want int
	}{{two, 2}, {two, 2}, {two[:1], 3}, {two[:1], 3}} {
		if b.cond(c.l, none, none); len(b.l) != c.want {
			t.Errorf("limits: behind condition %d: %d instructions, want %d", i, len(b.l), c.want)
		}
	}
}
