package rules

import "calliper/api"

// args looks at a call's arguments. An array alone may stand only where its parameter is an array.
func (k *checker) args(s api.Stmt) {
	g, _ := k.callee(s.To)
	for i, l := range s.Args {
		if name, ok := loneName(l); ok && i < len(g.Params) && g.Params[i].Size != 0 && k.array(name) == nil {
			continue
		}
		k.expr(l, inCode)
	}
}

// call: there is such a function, and the call fits it.
func (k *checker) call(s api.Stmt) error {
	g, ok := k.callee(s.To)
	if !ok {
		return broken(api.FNone)
	}
	if len(s.Args) != len(g.Params) || s.Has && g.T == 0 || !k.arraysFit(s, g) {
		return broken(api.FArgs)
	}
	return nil
}

// arraysFit tells whether each array parameter gets an array of its own kind, and no two of them one array.
func (k *checker) arraysFit(s api.Stmt, g api.Func) bool {
	handed := map[string]int{}
	for i, q := range g.Params {
		if q.Size == 0 {
			continue
		}
		name, ok := loneName(s.Args[i])
		if !ok || !k.fits(name, q) {
			return false
		}
		handed[name]++
		if handed[name] > 1 {
			return false
		}
	}
	return true
}

// fits tells whether a name is that of an array that an array parameter takes. A global's is not: it would have two names in there.
func (k *checker) fits(name string, q api.Param) bool {
	x, ok := k.find(name)
	return ok && x.array && x.t == q.T && x.size == q.Size && x.from != fromGlobal
}
