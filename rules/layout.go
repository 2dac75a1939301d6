package rules

import "calliper/api"

// Layout is a function's scalars and arrays, each at its place.
func Layout(p api.Program, f api.Func) api.Layout {
	var y api.Layout
	scalar := func(name string, t int) {
		y.Vars = append(y.Vars, api.Bind{Name: name, T: t, Id: len(y.Vars)})
	}
	array := func(name string, t, size int) {
		y.Arrs = append(y.Arrs, api.Bind{Name: name, T: t, Size: size, Id: len(y.Arrs)})
	}
	either := func(name string, t, size int) {
		if size == 0 {
			scalar(name, t)
		} else {
			array(name, t, size)
		}
	}
	for _, q := range f.Params {
		either(q.Name, q.T, q.Size)
	}
	for _, g := range p.Globals {
		either(g.Name, g.T, g.Size)
	}
	for _, b := range y.Vars {
		scalar("old "+b.Name, b.T)
	}
	lets(f.Body, scalar, array)
	if f.T != 0 {
		scalar("result", f.T)
	}
	return y
}

// lets tells all `let`s, in the order in which they stand, inner ones too.
func lets(body []api.Stmt, scalar func(string, int), array func(string, int, int)) {
	for _, s := range body {
		switch s.Kind {
		case api.SLet:
			scalar(s.Name, s.T)
		case api.SArray:
			array(s.Name, s.T, s.Size)
		}
		lets(s.Body, scalar, array)
		lets(s.Else, scalar, array)
	}
}
