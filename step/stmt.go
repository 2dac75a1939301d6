package step

import (
	"calliper/api"
	"calliper/typ"
)

// Where a run goes behind a statement.
const (
	on    = iota // to the next one
	out          // out of the loop: behind a break
	again        // to the loop's next look: behind a continue
	back         // to the caller: behind a return
)

// block runs statements. The names that they make, and the blocks of these, are gone behind them.
func (m *machine) block(body []api.Stmt) int {
	names, blocks := len(m.frame.names), m.mem.Len()
	way := on
	for i := 0; i < len(body) && way == on; i++ {
		way = m.stmt(&body[i])
	}
	m.frame.names = m.frame.names[:names]
	m.mem.Cut(blocks)
	return way
}

func (m *machine) stmt(s *api.Stmt) int {
	m.spend()
	switch s.Kind {
	case api.SLet:
		m.let(s.Name, s.T, 0)
		fallthrough
	case api.SSet:
		m.set(s.Name, m.value(s.E))
	case api.SArray:
		m.let(s.Name, s.T, s.Size)
	case api.SElem:
		m.element(s)
	case api.SInput:
		m.input(s.Name)
	case api.SCall:
		m.callOf(s)
	case api.SAssert:
		m.hold([]api.Clause{{At: s.At, C: s.C}}, api.KAssert, m.env())
	case api.SIf:
		if m.test(s.C) {
			return m.block(s.Body)
		}
		return m.block(s.Else)
	case api.SWhile:
		return m.loop(s)
	case api.SBreak:
		return out
	case api.SContinue:
		return again
	case api.SReturn:
		if s.Has {
			m.frame.result = m.value(s.E)
		}
		return back
	}
	return on
}

// element puts a value into a place of an array.
func (m *machine) element(s *api.Stmt) {
	at := m.value(s.X)
	v := m.value(s.E)
	if !m.mem.Set(m.find(s.Name).Id, at, v) {
		m.undefined(api.UbIndex, s.At)
	}
}

// input puts the next of what is put in into a scalar; nought, where there is no more.
func (m *machine) input(name string) {
	v := 0
	if len(m.inputs) > 0 {
		v = typ.Wrap(m.find(name).T, m.inputs[0])
		m.inputs = m.inputs[1:]
	}
	m.tell(api.Event{Kind: api.EvInput, N: v})
	m.set(name, v)
}

func (m *machine) loop(s *api.Stmt) int {
	for {
		m.spend()
		m.hold(s.Inv, api.KInvariant, m.env())
		if !m.test(s.C) {
			return on
		}
		switch m.block(s.Body) {
		case out:
			return on
		case back:
			return back
		}
	}
}
