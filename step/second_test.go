package step

import (
	"maps"
	"math/big"
	"slices"

	"calliper/api"
)

// A second run of a program without faults but some of FWrite: by its own reckoning of numbers of any length, on boxes that hang on names, with ends that are handed up. It tells what Run is to tell.

// A box is what a name stands for.
type box struct {
	t    int
	vals []int
}

func newBox(t, size int) *box { return &box{t, make([]int, max(size, 1))} }

func (b *box) twin() *box { return &box{b.t, slices.Clone(b.vals)} }

// names are what stands somewhere; those of an inner block are put into a twin of the outer one's.
type names map[string]*box

func (n names) twins() names {
	l := names{}
	for name, b := range n {
		l[name] = b.twin()
	}
	return l
}

// cut is v as one of type t.
func cut(t int, v *big.Int) int {
	bits := uint([]int{8, 8, 16, 16, 32, 32}[t-1])
	mod := new(big.Int).Lsh(big.NewInt(1), bits)
	r := new(big.Int).Mod(v, mod)
	if t%2 == 1 && r.Bit(int(bits)-1) == 1 {
		r.Sub(r, mod)
	}
	return int(r.Int64())
}

func cutInt(t, v int) int { return cut(t, big.NewInt(int64(v))) }

func wide(t int) int {
	if t == api.U32 {
		return t
	}
	return api.I32
}

// A look is what names have, and had, where an expression stands.
type look struct {
	is, was   names
	result, t int
}

// A val is what an expression has; of undefined behaviour ub is not 0, and at is its place.
type val struct{ v, t, ub, at int }

func (k look) expr(l []api.Expr, i int) val {
	n := l[i]
	switch n.Kind {
	case api.ENum:
		return val{v: n.Num, t: n.T}
	case api.EVar:
		return val{v: k.is[n.Name].vals[0], t: k.is[n.Name].t}
	case api.EResult:
		return val{v: k.result, t: k.t}
	case api.EOld:
		return look{is: k.was}.expr(l, n.A)
	}
	a := k.expr(l, n.A)
	if a.ub != 0 {
		return a
	}
	switch n.Kind {
	case api.EElem:
		b := k.is[n.Name]
		if a.v < 0 || a.v >= len(b.vals) {
			return val{ub: api.UbIndex, at: n.At}
		}
		return val{v: b.vals[a.v], t: b.t}
	case api.ECast:
		return val{v: cutInt(n.T, a.v), t: n.T}
	case api.ENeg, api.ECom:
		return both(n, wide(a.t), a.v, 0)
	}
	b := k.expr(l, n.B)
	if b.ub != 0 {
		return b
	}
	if n.Kind == api.EShl || n.Kind == api.EShr {
		return both(n, wide(a.t), a.v, b.v)
	}
	t := max(wide(a.t), wide(b.t))
	return both(n, t, cutInt(t, a.v), cutInt(t, b.v))
}

// both is an operator of two numbers, or of the first, of one type.
func both(n api.Expr, t, left, right int) val {
	a, b, r := big.NewInt(int64(cutInt(t, left))), big.NewInt(int64(right)), new(big.Int)
	ub, wraps := 0, t == api.U32
	switch n.Kind {
	case api.ENeg:
		r.Neg(a)
	case api.EAdd:
		r.Add(a, b)
	case api.ESub:
		r.Sub(a, b)
	case api.EMul:
		r.Mul(a, b)
	case api.EDiv, api.EMod:
		if right == 0 {
			ub = api.UbDiv
			break
		}
		q, m := new(big.Int).QuoRem(a, b, new(big.Int))
		if !wraps && q.Int64() == 1<<31 {
			ub = api.UbOver
		}
		if r = q; n.Kind == api.EMod {
			r = m
		}
	case api.ECom:
		r.Not(a)
		wraps = true
	case api.EAnd:
		r.And(a, b)
	case api.EOr:
		r.Or(a, b)
	case api.EXor:
		r.Xor(a, b)
	case api.EShl, api.EShr:
		if right < 0 || right > 31 {
			ub = api.UbShift
			break
		}
		if r.Lsh(a, uint(right)); n.Kind == api.EShr {
			r.Rsh(a, uint(right))
		} else if !wraps && left < 0 {
			ub = api.UbOver
		}
	}
	if ub == 0 && !wraps && int64(cut(t, r)) != r.Int64() {
		ub = api.UbOver
	}
	if ub != 0 {
		return val{ub: ub, at: n.At}
	}
	return val{v: cut(t, r), t: t}
}

func (k look) cond(l []api.Cond, i int) val {
	n := l[i]
	if n.Kind == api.CRel {
		x := k.expr(n.X, len(n.X)-1)
		if x.ub != 0 {
			return x
		}
		y := k.expr(n.Y, len(n.Y)-1)
		if y.ub != 0 {
			return y
		}
		t := max(wide(x.t), wide(y.t))
		a, b := cutInt(t, x.v), cutInt(t, y.v)
		return yes([]bool{a == b, a != b, a < b, a <= b, a > b, a >= b}[n.Rel-1])
	}
	a := k.cond(l, n.A)
	switch {
	case a.ub != 0:
		return a
	case n.Kind == api.CNot:
		return yes(a.v == 0)
	case (n.Kind == api.CAnd) == (a.v == 1):
		return k.cond(l, n.B)
	}
	return a
}

func yes(is bool) val {
	if is {
		return val{v: 1}
	}
	return val{}
}

// Ways out of a statement; an end is a number above them.
const (
	goesOn = iota
	breaks
	continues
	returns
	ends
)

type second struct {
	p       api.Program
	globals names
	inputs  []int
	fuel    int
	open    int
	trace   api.Trace
}

func (s *second) tell(v api.Event) { s.trace.Events = append(s.trace.Events, v) }

func (s *second) end(kind int) int {
	s.trace.End = kind
	return ends
}

func (s *second) ub(v val) int {
	s.tell(api.Event{Kind: api.EvUb, At: v.at, N: v.ub})
	return s.end(api.EndUb)
}

func (s *second) claims(l []api.Clause, kind int, k look) int {
	for _, c := range l {
		v := k.cond(c.C, len(c.C)-1)
		if v.ub != 0 {
			v.v = 0
		}
		s.tell(api.Event{Kind: api.EvCheck, At: c.At, K: kind, N: v.v})
		if v.v == 0 {
			return s.end(api.EndFail)
		}
	}
	return goesOn
}

// call runs the function of a name, with a box of each parameter, and tells its result.
func (s *second) call(name string, boxes []*box) (result, way int) {
	if s.open >= api.MaxCalls {
		return 0, s.end(api.EndFuel)
	}
	s.open++
	f := s.p.Funcs[slices.IndexFunc(s.p.Funcs, func(f api.Func) bool { return f.Name == name })]
	here := maps.Clone(s.globals)
	call := api.Event{Kind: api.EvCall, Name: name}
	for i, q := range f.Params {
		here[q.Name] = boxes[i]
		if q.Size == 0 {
			call.Vals = append(call.Vals, boxes[i].vals[0])
		}
	}
	s.tell(call)
	was := here.twins()
	if way := s.claims(f.Requires, api.KRequires, look{is: here}); way == ends {
		return 0, way
	}
	if s.block(f.Body, here, f.T, &result) == ends {
		return 0, ends
	}
	is := maps.Clone(here)
	for _, q := range f.Params {
		if q.Size == 0 {
			is[q.Name] = was[q.Name]
		}
	}
	if way := s.claims(f.Ensures, api.KEnsures, look{is, was, result, f.T}); way == ends {
		return 0, way
	}
	for name, b := range is {
		if !slices.Equal(b.vals, was[name].vals) && !slices.Contains(f.Names, name) {
			s.tell(api.Event{Kind: api.EvCheck, At: f.At, K: api.KFrame})
			return 0, s.end(api.EndFail)
		}
	}
	s.tell(api.Event{Kind: api.EvReturn, Name: name, N: result})
	s.open--
	return result, goesOn
}

// block has its names in a map of its own, so that they are gone behind it.
func (s *second) block(body []api.Stmt, outer names, t int, result *int) int {
	here := maps.Clone(outer)
	for _, x := range body {
		if s.fuel--; s.fuel < 0 {
			return s.end(api.EndFuel)
		}
		if way := s.stmt(x, here, t, result); way != goesOn {
			return way
		}
	}
	return goesOn
}

func (s *second) stmt(x api.Stmt, here names, t int, result *int) int {
	k := look{is: here}
	e := val{}
	if x.Kind == api.SElem {
		e = k.expr(x.X, len(x.X)-1)
	}
	index := e.v
	if len(x.E) > 0 && e.ub == 0 {
		e = k.expr(x.E, len(x.E)-1)
	}
	if e.ub != 0 {
		return s.ub(e)
	}
	put := func(b *box, at, v int) { b.vals[at] = cutInt(b.t, v) }
	switch x.Kind {
	case api.SLet:
		here[x.Name] = newBox(x.T, 1)
		put(here[x.Name], 0, e.v)
	case api.SArray:
		here[x.Name] = newBox(x.T, x.Size)
	case api.SSet:
		put(here[x.Name], 0, e.v)
	case api.SElem:
		b := here[x.Name]
		if index < 0 || index >= len(b.vals) {
			return s.ub(val{ub: api.UbIndex, at: x.At})
		}
		put(b, index, e.v)
	case api.SCall:
		return s.calls(x, here)
	case api.SIf:
		return s.choice(x, here, t, result)
	case api.SWhile:
		return s.loop(x, here, t, result)
	case api.SBreak:
		return breaks
	case api.SContinue:
		return continues
	case api.SReturn:
		if x.Has {
			*result = cutInt(t, e.v)
		}
		return returns
	case api.SAssert:
		return s.claims([]api.Clause{{At: x.At, C: x.C}}, api.KAssert, k)
	case api.SInput:
		b, next := here[x.Name], append(s.inputs, 0)
		put(b, 0, next[0])
		s.inputs = s.inputs[min(1, len(s.inputs)):]
		s.tell(api.Event{Kind: api.EvInput, N: b.vals[0]})
	}
	return goesOn
}

func (s *second) calls(x api.Stmt, here names) int {
	f := s.p.Funcs[slices.IndexFunc(s.p.Funcs, func(f api.Func) bool { return f.Name == x.To })]
	var boxes []*box
	for i, q := range f.Params {
		if q.Size > 0 {
			boxes = append(boxes, here[x.Args[i][0].Name])
			continue
		}
		e := look{is: here}.expr(x.Args[i], len(x.Args[i])-1)
		if e.ub != 0 {
			return s.ub(e)
		}
		boxes = append(boxes, &box{q.T, []int{cutInt(q.T, e.v)}})
	}
	result, way := s.call(x.To, boxes)
	if way == goesOn && x.Has {
		b := here[x.Name]
		b.vals[0] = cutInt(b.t, result)
	}
	return way
}

func (s *second) choice(x api.Stmt, here names, t int, result *int) int {
	c := look{is: here}.cond(x.C, len(x.C)-1)
	switch {
	case c.ub != 0:
		return s.ub(c)
	case c.v == 1:
		return s.block(x.Body, here, t, result)
	}
	return s.block(x.Else, here, t, result)
}

func (s *second) loop(x api.Stmt, here names, t int, result *int) int {
	for s.fuel > 0 {
		s.fuel--
		if way := s.claims(x.Inv, api.KInvariant, look{is: here}); way == ends {
			return way
		}
		c := look{is: here}.cond(x.C, len(x.C)-1)
		if c.ub != 0 {
			return s.ub(c)
		}
		if c.v == 0 {
			return goesOn
		}
		switch way := s.block(x.Body, here, t, result); way {
		case breaks:
			return goesOn
		case returns, ends:
			return way
		}
	}
	return s.end(api.EndFuel)
}

// secondRun is of a run that there is.
func secondRun(p api.Program, entry string, args []int, globals []api.Block, inputs []int, fuel int) api.Trace {
	s := &second{p: p, globals: names{}, inputs: slices.Clip(inputs), fuel: fuel}
	for i, g := range p.Globals {
		b := newBox(g.T, g.Size)
		if g.Size == 0 {
			b.vals[0] = g.Init
		}
		if len(globals) > 0 {
			b.vals = slices.Clone(globals[i].Vals)
		}
		s.globals[g.Name] = b
	}
	f := p.Funcs[slices.IndexFunc(p.Funcs, func(f api.Func) bool { return f.Name == entry })]
	var boxes []*box
	for i, q := range f.Params {
		boxes = append(boxes, &box{q.T, []int{cutInt(q.T, args[i])}})
	}
	result, way := s.call(entry, boxes)
	if way == ends {
		return s.trace
	}
	s.trace.End, s.trace.Result = api.EndDone, result
	for _, g := range p.Globals {
		b := s.globals[g.Name]
		s.trace.Globals = append(s.trace.Globals, api.Block{T: b.t, Vals: b.vals})
	}
	return s.trace
}
