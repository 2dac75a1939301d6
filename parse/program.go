package parse

import "calliper/api"

// program reads globals and functions, in whatever order they stand, up to what is neither.
func (r *reader) program() api.Program {
	var p api.Program
items:
	for {
		switch r.peek().Text {
		case "global":
			p.Globals = append(p.Globals, r.global())
		case "fn":
			p.Funcs = append(p.Funcs, r.function())
		default:
			break items
		}
	}
	return p
}

func (r *reader) global() api.Global {
	r.take("global")
	name := r.name()
	g := api.Global{Name: name.Text, At: name.At}
	r.take(":")
	g.T = r.typeName()
	g.Size = r.sizeIfAny()
	if r.skip("=") {
		g.Init = r.start()
	}
	r.take(";")
	return g
}

// start is a global's first value, whatever the type of its number.
func (r *reader) start() int {
	minus := r.skip("-")
	v, _ := r.num()
	if minus {
		return -v
	}
	return v
}

func (r *reader) function() api.Func {
	r.take("fn")
	name := r.name()
	f := api.Func{Name: name.Text, At: name.At, Params: r.params()}
	if r.skip(":") {
		f.T = r.typeName()
	}
	r.clauses(&f)
	f.Body = r.block()
	return f
}

func (r *reader) params() []api.Param {
	r.take("(")
	if r.skip(")") {
		return nil
	}
	l := []api.Param{r.param()}
	for r.skip(",") {
		l = append(l, r.param())
	}
	r.take(")")
	return l
}

func (r *reader) param() api.Param {
	name := r.name()
	p := api.Param{Name: name.Text, At: name.At}
	r.take(":")
	p.T = r.typeName()
	p.Size = r.sizeIfAny()
	return p
}

// clauses reads a function's clauses up to its body, each kind in the order in which it stands.
func (r *reader) clauses(f *api.Func) {
clauses:
	for {
		switch r.peek().Text {
		case "requires":
			f.Requires = append(f.Requires, r.clause())
		case "ensures":
			f.Ensures = append(f.Ensures, r.clause())
		case "assigns":
			f.Names = append(f.Names, r.assigns()...)
		default:
			break clauses
		}
	}
}
