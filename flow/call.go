package flow

import (
	"calliper/api"
	"calliper/eval"
	"calliper/memory"
	"calliper/typ"
	"calliper/watch"
)

// frame is an open call.
type frame struct {
	fn     *api.Func
	caller *frame    // nil: it is the run's entry
	by     *api.Stmt // the caller's statement that calls
	code   code
	at     int         // the place of the next instruction
	blocks int         // how many were there ahead of the call
	own    []int       // what its scalar parameters began with
	names  []api.Bind  // those of its contract, then its `let`s
	named  int         // how many names are its contract's
	was    *memory.Mem // a picture of these, made at the call
	result int
}

// enter opens a call, by what is given to the function's parameters: to a scalar a value, to an array the Id of a block.
func (m *machine) enter(f *api.Func, given []int, by *api.Stmt) {
	if m.open == api.MaxCalls {
		m.trace.End = api.EndFuel
		return
	}
	c, blocks := m.code(f), m.mem.Len()
	names := m.names(f, given)
	m.open++
	m.frame = &frame{fn: f, caller: m.frame, by: by, code: c, at: c.entry, blocks: blocks, own: scalars(f, given), names: names, named: len(names), was: picture(m.mem, names)}
	m.tell(api.Event{Kind: api.EvCall, Name: f.Name, Vals: scalars(f, given)})
	m.hold(f.Requires, api.KRequires, m.env())
}

// scalars are the values that are given to a function's scalar parameters.
func scalars(f *api.Func, given []int) []int {
	var l []int
	for i, q := range f.Params {
		if q.Size == 0 {
			l = append(l, given[i])
		}
	}
	return l
}

// names are those that a contract may speak of, in the order of the function's Layout: scalars ahead of arrays, parameters ahead of globals. A scalar parameter has a block of its own, an array parameter the argument's.
func (m *machine) names(f *api.Func, given []int) []api.Bind {
	var one, many []api.Bind
	stand := func(b api.Bind) {
		if b.Size == 0 {
			one = append(one, b)
		} else {
			many = append(many, b)
		}
	}
	for i, q := range f.Params {
		id := given[i]
		if q.Size == 0 {
			id = m.mem.Add(q.T, 0)
			m.mem.Set(id, 0, given[i])
		}
		stand(api.Bind{Name: q.Name, T: q.T, Size: q.Size, Id: id})
	}
	for id, g := range m.p.Globals {
		stand(api.Bind{Name: g.Name, T: g.T, Size: g.Size, Id: id})
	}
	return append(one, many...)
}

// leave returns from the innermost call, if it kept its contract.
func (m *machine) leave() {
	f := m.frame
	result := typ.Wrap(f.fn.T, f.result)
	if !m.kept(f, result) {
		return
	}
	m.tell(api.Event{Kind: api.EvReturn, Name: f.fn.Name, N: result})
	m.open--
	m.mem.Cut(f.blocks)
	m.frame = f.caller
	switch {
	case f.caller == nil:
		m.done(result)
	case f.by.Has:
		m.set(f.by.Name, result)
	}
}

// kept holds a call's contract against its return; if it does not hold, the run ends.
func (m *machine) kept(f *frame, result int) bool {
	is, names := picture(m.mem, f.names[:f.named]), pictured(f.names[:f.named])
	// The body may have set scalar parameters, which stand first; the contract speaks of what was given.
	for i, v := range f.own {
		is.Set(i, 0, v)
	}
	if !m.hold(f.fn.Ensures, api.KEnsures, eval.Env{Mem: is, Binds: names, Old: f.was, Olds: names, Result: result, T: f.fn.T}) {
		return false
	}
	shared := names[len(f.own):]
	if watch.Changed(f.was, is, ids(shared), ids(said(f.fn.Names, shared))) < 0 {
		return true
	}
	m.tell(api.Event{Kind: api.EvCheck, At: f.fn.At, K: api.KFrame})
	m.trace.End = api.EndFail
	return false
}

// picture has copies of the blocks of names alone, in the names' order. So what a call costs hangs on what its contract may speak of, not on all that is there.
func picture(m *memory.Mem, names []api.Bind) *memory.Mem {
	c := memory.New()
	for _, n := range names {
		b, _ := m.Block(n.Id)
		fill(c, c.Add(b.T, len(b.Vals)), b.Vals)
	}
	return c
}

// pictured are names that stand for their blocks in a picture.
func pictured(names []api.Bind) []api.Bind {
	var l []api.Bind
	for id, b := range names {
		b.Id = id
		l = append(l, b)
	}
	return l
}

// said are those of binds that a function says it assigns.
func said(names []string, binds []api.Bind) []api.Bind {
	may := make(map[string]struct{}, len(names))
	for _, name := range names {
		may[name] = struct{}{}
	}
	var l []api.Bind
	for _, b := range binds {
		if _, ok := may[b.Name]; ok {
			l = append(l, b)
		}
	}
	return l
}

func ids(l []api.Bind) []int {
	var ids []int
	for _, b := range l {
		ids = append(ids, b.Id)
	}
	return ids
}
