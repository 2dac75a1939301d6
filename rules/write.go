package rules

import (
	"slices"

	"calliper/api"
)

// writes holds what a statement writes against what its function and the loops around say.
func (k *checker) writes(s api.Stmt) {
	for _, x := range k.written(s) {
		if x.shared() {
			k.tell(s.At, x.name, said(k.f.Names, x.name))
		}
		for i, loop := range k.loops {
			// What was made while i loops were open, or fewer, was made outside this one.
			if loop.Has && x.loops <= i {
				k.tell(s.At, x.name, said(loop.Names, x.name))
			}
		}
	}
}

// said: a name is one of those that are said to be written.
func said(names []string, name string) error {
	if slices.Contains(names, name) {
		return nil
	}
	return broken(api.FWrite)
}

// written is what a statement writes, in order. What there is not is not written.
func (k *checker) written(s api.Stmt) []thing {
	var l []thing
	add := func(x thing, ok bool) {
		if ok {
			l = append(l, x)
		}
	}
	switch s.Kind {
	case api.SSet, api.SElem, api.SInput:
		add(k.find(s.Name))
	case api.SCall:
		if s.Has {
			add(k.find(s.Name))
		}
		g, _ := k.callee(s.To)
		for _, name := range g.Names {
			add(k.assigned(s, g, name))
		}
	}
	return l
}

// assigned is what a call writes by one of the Names of the function that it calls: for an array parameter what is handed to it, else a global, whatever that name stands for here.
func (k *checker) assigned(s api.Stmt, g api.Func, name string) (thing, bool) {
	for i, q := range slices.Backward(g.Params) {
		if q.Name != name || q.Size == 0 {
			continue
		}
		if i >= len(s.Args) {
			return thing{}, false
		}
		handed, ok := loneName(s.Args[i])
		if !ok {
			return thing{}, false
		}
		return k.find(handed)
	}
	return last(k.things[:len(k.p.Globals)], name)
}
