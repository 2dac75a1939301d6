package step

import (
	"slices"

	"calliper/api"
	"calliper/eval"
	"calliper/memory"
	"calliper/watch"
)

// end is what a machine panics with when a run ends ahead of its entry's return: the number of that end.
type end int

// machine is a run as far as it has come.
type machine struct {
	p      api.Program
	funcs  map[string]int // of each name the place of its first function
	mem    *memory.Mem    // the globals' blocks, then those of each open call
	frame  frame
	open   int // calls
	inputs []int
	fuel   int
	events []api.Event
}

// frame is what the innermost call has of its own.
type frame struct {
	names  []api.Bind // that stand here: those of its contract, then its `let`s
	result int
}

func newMachine(p api.Program, inputs []int, fuel int) *machine {
	m := &machine{p: p, funcs: map[string]int{}, mem: memory.New(), inputs: inputs, fuel: fuel}
	for i, f := range slices.Backward(p.Funcs) {
		m.funcs[f.Name] = i
	}
	return m
}

// function is the first function of a name.
func (m *machine) function(name string) (*api.Func, bool) {
	i, ok := m.funcs[name]
	if !ok {
		return nil, false
	}
	return &m.p.Funcs[i], true
}

// begin makes the globals' blocks: as they are told, or as the program says.
func (m *machine) begin(told []api.Block) {
	for i, g := range m.p.Globals {
		id := m.mem.Add(g.T, g.Size)
		switch {
		case len(told) > 0:
			for at, v := range told[i].Vals {
				m.mem.Set(id, at, v)
			}
		case g.Size == 0:
			m.mem.Set(id, 0, g.Init)
		}
	}
}

// globals are copies of the globals' blocks, which are the first ones.
func (m *machine) globals() []api.Block {
	var l []api.Block
	for id := range m.p.Globals {
		b, _ := m.mem.Block(id)
		l = append(l, b)
	}
	return l
}

func (m *machine) tell(e api.Event) {
	m.events = append(m.events, e)
}

// spend takes one fuel.
func (m *machine) spend() {
	if m.fuel == 0 {
		panic(end(api.EndFuel))
	}
	m.fuel--
}

// undefined ends the run.
func (m *machine) undefined(ub, at int) {
	m.tell(api.Event{Kind: api.EvUb, At: at, N: ub})
	panic(end(api.EndUb))
}

// hold ends the run, if one of the clauses does not hold.
func (m *machine) hold(l []api.Clause, kind int, e eval.Env) {
	events, ok := watch.Clauses(l, kind, e)
	m.events = append(m.events, events...)
	if !ok {
		panic(end(api.EndFail))
	}
}

// env is what names have here and now.
func (m *machine) env() eval.Env {
	return eval.Env{Mem: m.mem, Binds: m.frame.names}
}

func (m *machine) value(l []api.Expr) int {
	v, _, ub, at := eval.Value(l, len(l)-1, m.env())
	if ub != api.UbNone {
		m.undefined(ub, at)
	}
	return v
}

func (m *machine) test(l []api.Cond) bool {
	is, ub, at := eval.Test(l, len(l)-1, m.env())
	if ub != api.UbNone {
		m.undefined(ub, at)
	}
	return is
}

// find is what a name stands for. Only in a program with faults it may be nothing: then it has no block.
func (m *machine) find(name string) api.Bind {
	for _, b := range slices.Backward(m.frame.names) {
		if b.Name == name {
			return b
		}
	}
	return api.Bind{Id: -1}
}

// let makes a block of noughts, and lets a name stand for it.
func (m *machine) let(name string, t, size int) {
	id := m.mem.Add(t, size)
	m.frame.names = append(m.frame.names, api.Bind{Name: name, T: t, Size: size, Id: id})
}

// set puts a value into a scalar, whose block wraps it.
func (m *machine) set(name string, v int) {
	m.mem.Set(m.find(name).Id, 0, v)
}
