package step

import (
	"calliper/api"
	"calliper/eval"
	"calliper/memory"
	"calliper/watch"
)

// keep holds a function's contract against its return: given is what its parameters began with, was the memory that it began with.
func (m *machine) keep(f *api.Func, given []int, was *memory.Mem, result int) {
	names, own := m.frame.names, scalars(f, given)
	// The body may have set scalar parameters, which stand first; the contract speaks of what was given.
	for i, v := range own {
		m.mem.Set(names[i].Id, 0, v)
	}
	m.hold(f.Ensures, api.KEnsures, eval.Env{Mem: m.mem, Binds: names, Old: was, Olds: names, Result: result, T: f.T})
	shared := names[len(own):]
	if watch.Changed(was, m.mem, ids(shared), ids(said(f.Names, shared))) >= 0 {
		m.tell(api.Event{Kind: api.EvCheck, At: f.At, K: api.KFrame})
		panic(end(api.EndFail))
	}
}

// said are those of binds that a function says it assigns.
func said(names []string, binds []api.Bind) []api.Bind {
	may := make(map[string]struct{}, len(names))
	for _, name := range names {
		may[name] = struct{}{}
	}
	var l []api.Bind
	for _, b := range binds {
		if _, ok := may[b.Name]; ok {
			l = append(l, b)
		}
	}
	return l
}

func ids(l []api.Bind) []int {
	var ids []int
	for _, b := range l {
		ids = append(ids, b.Id)
	}
	return ids
}
