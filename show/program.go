package show

import (
	"calliper/api"
	"calliper/typ"
)

func (put writer) program(p api.Program) {
	for _, g := range p.Globals {
		put.global(g)
	}
	for _, f := range p.Funcs {
		put.function(f)
	}
}

func (put writer) global(g api.Global) {
	put("global")
	put.declared(g.Name, g.T, g.Size)
	if g.Size == 0 || g.Init != 0 {
		put("=")
		put.start(g.Init)
	}
	put(";")
}

// declared puts a name with its type; size 0: a scalar.
func (put writer) declared(name string, t, elements int) {
	put(name, ":", typ.Name(t))
	if elements != 0 {
		put("[", size(elements), "]")
	}
}

// start puts a global's first value.
func (put writer) start(v int) {
	if v < 0 {
		put("-")
		v = -v
	}
	put(size(v))
}

func (put writer) function(f api.Func) {
	put("fn", f.Name, "(")
	joined(put, f.Params, func(p api.Param) { put.declared(p.Name, p.T, p.Size) })
	put(")")
	if f.T != 0 {
		put(":", typ.Name(f.T))
	}
	put.clauses("requires", f.Requires)
	put.clauses("ensures", f.Ensures)
	if len(f.Names) > 0 {
		put.assigns(f.Names)
	}
	put.block(f.Body)
}

func (put writer) clauses(word string, l []api.Clause) {
	for _, c := range l {
		put(word)
		put.cond(c.C)
		put(";")
	}
}

func (put writer) assigns(names []string) {
	put("assigns")
	if len(names) == 0 {
		put("nothing")
	}
	joined(put, names, func(name string) { put(name) })
	put(";")
}
