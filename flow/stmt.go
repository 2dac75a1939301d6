package flow

import (
	"slices"

	"calliper/api"
	"calliper/typ"
)

// do does what an instruction's statement says.
func (m *machine) do(s *api.Stmt) {
	switch s.Kind {
	case api.SLet:
		m.let(s.Name, s.T, 0)
		fallthrough
	case api.SSet:
		if v, ok := m.value(s.E); ok {
			m.set(s.Name, v)
		}
	case api.SArray:
		m.let(s.Name, s.T, s.Size)
	case api.SElem:
		m.element(s)
	case api.SCall:
		m.call(s)
	case api.SReturn:
		if s.Has {
			m.frame.result, _ = m.value(s.E)
		}
	case api.SAssert:
		m.hold([]api.Clause{{At: s.At, C: s.C}}, api.KAssert, m.env())
	case api.SInput:
		m.input(s.Name)
	}
}

// find is what a name stands for. Only in a program with faults it may be nothing: then it has no block.
func (m *machine) find(name string) api.Bind {
	for _, b := range slices.Backward(m.frame.names) {
		if b.Name == name {
			return b
		}
	}
	return api.Bind{Id: none}
}

// let lets a name stand for a block of noughts. Instructions do not tell where a block of statements ends: so a `let` keeps its own for the next time, or those of a loop would pile up.
func (m *machine) let(name string, t, size int) {
	f := m.frame
	if b := m.find(name); b.Id >= f.blocks && b.T == t && b.Size == size {
		for at := 0; m.mem.Set(b.Id, at, 0); at++ {
		}
		return
	}
	f.names = append(f.names, api.Bind{Name: name, T: t, Size: size, Id: m.mem.Add(t, size)})
}

// set puts a value into a scalar, whose block wraps it.
func (m *machine) set(name string, v int) {
	m.mem.Set(m.find(name).Id, 0, v)
}

// element puts a value into a place of an array.
func (m *machine) element(s *api.Stmt) {
	at, ok := m.value(s.X)
	if !ok {
		return
	}
	v, ok := m.value(s.E)
	if ok && !m.mem.Set(m.find(s.Name).Id, at, v) {
		m.undefined(api.UbIndex, s.At)
	}
}

// input puts the next of what is put in into a scalar; nought, where there is no more.
func (m *machine) input(name string) {
	v := 0
	if len(m.inputs) > 0 {
		v = typ.Wrap(m.find(name).T, m.inputs[0])
		m.inputs = m.inputs[1:]
	}
	m.tell(api.Event{Kind: api.EvInput, N: v})
	m.set(name, v)
}

// call opens a call of the function that a statement calls. Only in a program with faults there may be none.
func (m *machine) call(s *api.Stmt) {
	f, ok := m.function(s.To)
	if !ok {
		return
	}
	if given, ok := m.given(f, s.Args); ok {
		m.enter(f, given, s)
	}
}

// given is what a statement's arguments hand to a function's parameters. False: one has undefined behaviour, at which the run ends.
func (m *machine) given(f *api.Func, args [][]api.Expr) ([]int, bool) {
	l := make([]int, len(f.Params))
	// Only in a program with faults there may be more arguments than parameters, or fewer.
	for i, arg := range args[:min(len(args), len(l))] {
		q := f.Params[i]
		if q.Size != 0 {
			l[i] = m.array(arg)
			continue
		}
		v, ok := m.value(arg)
		if !ok {
			return nil, false
		}
		l[i] = typ.Wrap(q.T, v)
	}
	return l, true
}

// array is the Id of the block of an argument that is an array's name alone.
func (m *machine) array(l []api.Expr) int {
	if len(l) == 0 {
		return none
	}
	return m.find(l[len(l)-1].Name).Id
}
