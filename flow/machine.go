package flow

import (
	"slices"

	"calliper/api"
	"calliper/eval"
	"calliper/lower"
	"calliper/memory"
	"calliper/watch"
)

// none is the place of no instruction: there a call returns.
const none = -1

// machine is a run as far as it has come.
type machine struct {
	p      api.Program
	funcs  map[string]int // of each name the place of its first function
	codes  map[string]code
	mem    *memory.Mem // the globals' blocks, then those of each open call
	frame  *frame      // of the innermost call
	open   int         // calls
	inputs []int
	fuel   int
	trace  api.Trace // its End is 0 as long as the run goes on
}

// code is a body's instructions.
type code struct {
	l     []api.Instr
	entry int
}

func newMachine(p api.Program, inputs []int, fuel int) *machine {
	m := &machine{p: p, funcs: map[string]int{}, codes: map[string]code{}, mem: memory.New(), inputs: inputs, fuel: fuel}
	for i, f := range slices.Backward(p.Funcs) {
		m.funcs[f.Name] = i
	}
	return m
}

// function is the first function of a name.
func (m *machine) function(name string) (*api.Func, bool) {
	i, ok := m.funcs[name]
	if !ok {
		return nil, false
	}
	return &m.p.Funcs[i], true
}

// code is a function's, which is lowered at its first call alone.
func (m *machine) code(f *api.Func) code {
	c, ok := m.codes[f.Name]
	if !ok {
		c.l, c.entry = lower.Lower(*f)
		m.codes[f.Name] = c
	}
	return c
}

// begin makes the globals' blocks: as they are told, or as the program says.
func (m *machine) begin(told []api.Block) {
	for i, g := range m.p.Globals {
		id := m.mem.Add(g.T, g.Size)
		switch {
		case len(told) > 0:
			fill(m.mem, id, told[i].Vals)
		case g.Size == 0:
			m.mem.Set(id, 0, g.Init)
		}
	}
}

// fill puts values into a block, from its place 0 on.
func fill(m *memory.Mem, id int, vals []int) {
	for at, v := range vals {
		m.Set(id, at, v)
	}
}

// run goes on from instruction to instruction, always in the innermost call, till the run ends.
func (m *machine) run() {
places:
	for m.trace.End == 0 {
		f := m.frame
		switch {
		case f.at == none:
			m.leave()
			continue places
		case m.fuel == 0:
			m.trace.End = api.EndFuel
			break places
		}
		m.fuel--
		i := &f.code.l[f.at]
		f.at = i.Next
		switch i.Kind {
		case api.IDo:
			m.do(&i.S)
		case api.IIf:
			if !m.test(i) {
				f.at = i.Else
			}
		case api.IInv:
			m.hold([]api.Clause{i.Clause}, api.KInvariant, m.env())
		}
	}
}

// done ends the run at its entry's return.
func (m *machine) done(result int) {
	m.trace.End, m.trace.Result = api.EndDone, result
	for id := range m.p.Globals {
		b, _ := m.mem.Block(id)
		m.trace.Globals = append(m.trace.Globals, b)
	}
}

func (m *machine) tell(e api.Event) {
	m.trace.Events = append(m.trace.Events, e)
}

// undefined ends the run.
func (m *machine) undefined(ub, at int) {
	m.tell(api.Event{Kind: api.EvUb, At: at, N: ub})
	m.trace.End = api.EndUb
}

// hold tells whether clauses hold; if one does not, the run ends.
func (m *machine) hold(l []api.Clause, kind int, e eval.Env) bool {
	events, ok := watch.Clauses(l, kind, e)
	m.trace.Events = append(m.trace.Events, events...)
	if !ok {
		m.trace.End = api.EndFail
	}
	return ok
}

// env is what names have here and now.
func (m *machine) env() eval.Env {
	return eval.Env{Mem: m.mem, Binds: m.frame.names}
}

// value is what an expression has. False: it has undefined behaviour, at which the run ends.
func (m *machine) value(l []api.Expr) (int, bool) {
	v, _, ub, at := eval.Value(l, len(l)-1, m.env())
	if ub != api.UbNone {
		m.undefined(ub, at)
	}
	return v, ub == api.UbNone
}

// test tells whether an IIf's relation holds; at undefined behaviour the run ends.
func (m *machine) test(i *api.Instr) bool {
	is, ub, at := eval.Test([]api.Cond{{Kind: api.CRel, Rel: i.Rel, X: i.X, Y: i.Y}}, 0, m.env())
	if ub != api.UbNone {
		m.undefined(ub, at)
	}
	return is
}
