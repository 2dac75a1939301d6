package flow

import (
	"maps"
	"slices"

	"calliper/api"
	"calliper/eval"
	"calliper/memory"
	"calliper/typ"
)

// A second run of a program without faults but some of FWrite: of the tree, on boxes that hang on names, with ends that are handed up. It knows of no instructions, only of what these cost: a plain statement one fuel, a relation that is looked at one, and at each look at a while its head one, each invariant one.

// A box is what a name stands for.
type box struct {
	t, size int
	vals    []int
}

func newBox(t, size int) *box { return &box{t, size, make([]int, max(size, 1))} }

func (b *box) put(at, v int) { b.vals[at] = typ.Wrap(b.t, v) }

// names are what stands somewhere; those of an inner block are put into a map of its own.
type names map[string]*box

// twins are names with boxes of their own.
func (n names) twins() names {
	l := names{}
	for name, b := range n {
		l[name] = &box{b.t, b.size, slices.Clone(b.vals)}
	}
	return l
}

// blocks are names as an Env has them.
func (n names) blocks() (*memory.Mem, []api.Bind) {
	m, l := memory.New(), []api.Bind{}
	for name, b := range n {
		id := m.Add(b.t, b.size)
		for at, v := range b.vals {
			m.Set(id, at, v)
		}
		l = append(l, api.Bind{Name: name, T: b.t, Size: b.size, Id: id})
	}
	return m, l
}

func (n names) env() eval.Env {
	m, l := n.blocks()
	return eval.Env{Mem: m, Binds: l}
}

// Ways out of a statement.
const (
	goesOn = iota
	breaks
	continues
	returns
	ends
)

type second struct {
	p       api.Program
	globals names
	inputs  []int
	fuel    int
	open    int
	trace   api.Trace
}

func (s *second) tell(v api.Event) { s.trace.Events = append(s.trace.Events, v) }

func (s *second) end(kind int) int {
	s.trace.End = kind
	return ends
}

func (s *second) ub(ub, at int) int {
	s.tell(api.Event{Kind: api.EvUb, At: at, N: ub})
	return s.end(api.EndUb)
}

// spend is a way: it ends, where there is no fuel.
func (s *second) spend() int {
	if s.fuel == 0 {
		return s.end(api.EndFuel)
	}
	s.fuel--
	return goesOn
}

// expr is what an expression has, and its way.
func (s *second) expr(l []api.Expr, here names) (v, way int) {
	v, _, ub, at := eval.Value(l, len(l)-1, here.env())
	if ub != api.UbNone {
		return 0, s.ub(ub, at)
	}
	return v, goesOn
}

// cond tells whether a node of an if's or a while's condition holds, spending one fuel on each relation that it comes to.
func (s *second) cond(l []api.Cond, at int, here names) (is bool, way int) {
	n := l[at]
	if n.Kind == api.CRel {
		if s.spend() == ends {
			return false, ends
		}
		is, ub, where := eval.Test(l, at, here.env())
		if ub != api.UbNone {
			return false, s.ub(ub, where)
		}
		return is, goesOn
	}
	is, way = s.cond(l, n.A, here)
	switch {
	case way == ends:
		return false, ends
	case n.Kind == api.CNot:
		return !is, goesOn
	case is == (n.Kind == api.CAnd):
		return s.cond(l, n.B, here)
	}
	return is, goesOn
}

// claim is a way: it ends, where a clause does not hold.
func (s *second) claim(c api.Clause, kind int, e eval.Env) int {
	is, ub, _ := eval.Test(c.C, len(c.C)-1, e)
	if !is || ub != api.UbNone {
		s.tell(api.Event{Kind: api.EvCheck, At: c.At, K: kind})
		return s.end(api.EndFail)
	}
	s.tell(api.Event{Kind: api.EvCheck, At: c.At, K: kind, N: 1})
	return goesOn
}

func (s *second) claims(l []api.Clause, kind int, e eval.Env) int {
	for _, c := range l {
		if s.claim(c, kind, e) == ends {
			return ends
		}
	}
	return goesOn
}

func (s *second) function(name string) api.Func {
	return s.p.Funcs[slices.IndexFunc(s.p.Funcs, func(f api.Func) bool { return f.Name == name })]
}

// call runs the function of a name, with a box of each parameter, and tells its result.
func (s *second) call(name string, boxes []*box) (result, way int) {
	if s.open >= api.MaxCalls {
		return 0, s.end(api.EndFuel)
	}
	s.open++
	f := s.function(name)
	here := maps.Clone(s.globals)
	event := api.Event{Kind: api.EvCall, Name: name}
	for i, q := range f.Params {
		here[q.Name] = boxes[i]
		if q.Size == 0 {
			event.Vals = append(event.Vals, boxes[i].vals[0])
		}
	}
	s.tell(event)
	was := here.twins()
	if s.claims(f.Requires, api.KRequires, here.env()) == ends || s.block(f.Body, here, f.T, &result) == ends {
		return 0, ends
	}
	is := maps.Clone(here)
	for _, q := range f.Params {
		if q.Size == 0 {
			is[q.Name] = was[q.Name]
		}
	}
	e := is.env()
	e.Old, e.Olds = was.blocks()
	e.Result, e.T = result, f.T
	if s.claims(f.Ensures, api.KEnsures, e) == ends {
		return 0, ends
	}
	for name, b := range is {
		if !slices.Equal(b.vals, was[name].vals) && !slices.Contains(f.Names, name) {
			s.tell(api.Event{Kind: api.EvCheck, At: f.At, K: api.KFrame})
			return 0, s.end(api.EndFail)
		}
	}
	s.tell(api.Event{Kind: api.EvReturn, Name: name, N: result})
	s.open--
	return result, goesOn
}

func (s *second) block(body []api.Stmt, outer names, t int, result *int) int {
	here := maps.Clone(outer)
	for _, x := range body {
		if way := s.stmt(x, here, t, result); way != goesOn {
			return way
		}
	}
	return goesOn
}

// stmt is of those that hold others, or tell where it goes on; plain is of the rest.
func (s *second) stmt(x api.Stmt, here names, t int, result *int) int {
	switch x.Kind {
	case api.SIf:
		is, way := s.cond(x.C, len(x.C)-1, here)
		switch {
		case way == ends:
			return ends
		case is:
			return s.block(x.Body, here, t, result)
		}
		return s.block(x.Else, here, t, result)
	case api.SWhile:
		return s.loop(x, here, t, result)
	case api.SBreak:
		return breaks
	case api.SContinue:
		return continues
	}
	if s.spend() == ends {
		return ends
	}
	if x.Kind != api.SReturn {
		return s.plain(x, here)
	}
	if x.Has {
		v, way := s.expr(x.E, here)
		if way == ends {
			return ends
		}
		*result = typ.Wrap(t, v)
	}
	return returns
}

func (s *second) loop(x api.Stmt, here names, t int, result *int) int {
	for {
		if s.spend() == ends {
			return ends
		}
		for _, c := range x.Inv {
			if s.spend() == ends || s.claim(c, api.KInvariant, here.env()) == ends {
				return ends
			}
		}
		is, way := s.cond(x.C, len(x.C)-1, here)
		switch {
		case way == ends:
			return ends
		case !is:
			return goesOn
		}
		switch way := s.block(x.Body, here, t, result); way {
		case breaks:
			return goesOn
		case returns, ends:
			return way
		}
	}
}

func (s *second) plain(x api.Stmt, here names) int {
	index, v, way := 0, 0, goesOn
	if x.Kind == api.SElem {
		index, way = s.expr(x.X, here)
	}
	if len(x.E) > 0 && way == goesOn {
		v, way = s.expr(x.E, here)
	}
	if way == ends {
		return ends
	}
	switch x.Kind {
	case api.SLet:
		here[x.Name] = newBox(x.T, 0)
		here[x.Name].put(0, v)
	case api.SArray:
		here[x.Name] = newBox(x.T, x.Size)
	case api.SSet:
		here[x.Name].put(0, v)
	case api.SElem:
		if b := here[x.Name]; index >= 0 && index < b.size {
			b.put(index, v)
			break
		}
		return s.ub(api.UbIndex, x.At)
	case api.SCall:
		return s.calls(x, here)
	case api.SAssert:
		return s.claim(api.Clause{At: x.At, C: x.C}, api.KAssert, here.env())
	case api.SInput:
		next := append(slices.Clip(s.inputs), 0)
		s.inputs = s.inputs[min(1, len(s.inputs)):]
		here[x.Name].put(0, next[0])
		s.tell(api.Event{Kind: api.EvInput, N: here[x.Name].vals[0]})
	}
	return goesOn
}

func (s *second) calls(x api.Stmt, here names) int {
	var boxes []*box
	for i, q := range s.function(x.To).Params {
		if q.Size > 0 {
			boxes = append(boxes, here[x.Args[i][0].Name])
			continue
		}
		v, way := s.expr(x.Args[i], here)
		if way == ends {
			return ends
		}
		b := newBox(q.T, 0)
		b.put(0, v)
		boxes = append(boxes, b)
	}
	result, way := s.call(x.To, boxes)
	if way == goesOn && x.Has {
		here[x.Name].put(0, result)
	}
	return way
}

// secondRun is of a run that there is.
func secondRun(p api.Program, entry string, args []int, globals []api.Block, inputs []int, fuel int) api.Trace {
	s := &second{p: p, globals: names{}, inputs: inputs, fuel: fuel}
	for i, g := range p.Globals {
		b := newBox(g.T, g.Size)
		if g.Size == 0 {
			b.vals[0] = g.Init
		}
		if len(globals) > 0 {
			b.vals = slices.Clone(globals[i].Vals)
		}
		s.globals[g.Name] = b
	}
	var boxes []*box
	for i, q := range s.function(entry).Params {
		boxes = append(boxes, newBox(q.T, 0))
		boxes[i].put(0, args[i])
	}
	result, way := s.call(entry, boxes)
	if way == ends {
		return s.trace
	}
	s.trace.End, s.trace.Result = api.EndDone, result
	for _, g := range p.Globals {
		b := s.globals[g.Name]
		s.trace.Globals = append(s.trace.Globals, api.Block{T: b.t, Vals: b.vals})
	}
	return s.trace
}
