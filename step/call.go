package step

import (
	"calliper/api"
	"calliper/typ"
)

// callOf runs the function that a statement calls. Only in a program with faults there may be none.
func (m *machine) callOf(s *api.Stmt) {
	f, ok := m.function(s.To)
	if !ok {
		return
	}
	result := m.call(f, m.given(f, s.Args))
	if s.Has {
		m.set(s.Name, result)
	}
}

// given is what a call hands to each parameter: to a scalar a value, to an array the Id of a block.
func (m *machine) given(f *api.Func, args [][]api.Expr) []int {
	l := make([]int, len(f.Params))
	// Only in a program with faults there may be more arguments than parameters, or fewer.
	for i, arg := range args[:min(len(args), len(l))] {
		if q := f.Params[i]; q.Size == 0 {
			l[i] = typ.Wrap(q.T, m.value(arg))
		} else {
			l[i] = m.array(arg)
		}
	}
	return l
}

// array is the Id of the block of an argument that is an array's name alone.
func (m *machine) array(l []api.Expr) int {
	if len(l) == 0 {
		return -1
	}
	return m.find(l[len(l)-1].Name).Id
}

// entered is what a run's args hand to the scalar parameters that it begins with.
func entered(f *api.Func, args []int) []int {
	l := make([]int, len(args))
	for i, v := range args {
		l[i] = typ.Wrap(f.Params[i].T, v)
	}
	return l
}

// call runs a function by what is given to its parameters, and tells its result.
func (m *machine) call(f *api.Func, given []int) int {
	if m.open == api.MaxCalls {
		panic(end(api.EndFuel))
	}
	m.open++
	m.tell(api.Event{Kind: api.EvCall, Name: f.Name, Vals: scalars(f, given)})
	caller, blocks := m.frame, m.mem.Len()
	m.frame = frame{names: m.names(f, given)}
	was := m.mem.Copy()
	m.hold(f.Requires, api.KRequires, m.env())
	m.block(f.Body)
	result := typ.Wrap(f.T, m.frame.result)
	m.keep(f, given, was, result)
	m.tell(api.Event{Kind: api.EvReturn, Name: f.Name, N: result})
	m.frame = caller
	m.mem.Cut(blocks)
	m.open--
	return result
}

// scalars are the values that are given to a function's scalar parameters.
func scalars(f *api.Func, given []int) []int {
	var l []int
	for i, q := range f.Params {
		if q.Size == 0 {
			l = append(l, given[i])
		}
	}
	return l
}

// names are those that a function begins with, in the order of its Layout: scalars ahead of arrays, parameters ahead of globals. A scalar parameter has a block of its own, an array parameter the argument's.
func (m *machine) names(f *api.Func, given []int) []api.Bind {
	var one, many []api.Bind
	stand := func(b api.Bind) {
		if b.Size == 0 {
			one = append(one, b)
		} else {
			many = append(many, b)
		}
	}
	for i, q := range f.Params {
		id := given[i]
		if q.Size == 0 {
			id = m.mem.Add(q.T, 0)
			m.mem.Set(id, 0, given[i])
		}
		stand(api.Bind{Name: q.Name, T: q.T, Size: q.Size, Id: id})
	}
	for id, g := range m.p.Globals {
		stand(api.Bind{Name: g.Name, T: g.T, Size: g.Size, Id: id})
	}
	return append(one, many...)
}
