package lower

import (
	"slices"

	"calliper/api"
)

// plain is a copy of a statement as an instruction has it: without what other instructions stand for.
func plain(s *api.Stmt) api.Stmt {
	c := api.Stmt{Kind: s.Kind, At: s.At, Name: s.Name, T: s.T, Size: s.Size, X: slices.Clone(s.X), E: slices.Clone(s.E), Has: s.Has, To: s.To}
	for _, arg := range s.Args {
		c.Args = append(c.Args, slices.Clone(arg))
	}
	if s.Kind == api.SAssert {
		c.C = conds(s.C)
	}
	return c
}

func clause(c api.Clause) api.Clause {
	return api.Clause{At: c.At, C: conds(c.C)}
}

func conds(l []api.Cond) []api.Cond {
	c := slices.Clone(l)
	for i := range c {
		c[i].X, c[i].Y = slices.Clone(c[i].X), slices.Clone(c[i].Y)
	}
	return c
}
