package show

import (
	"calliper/api"
	"calliper/typ"
)

func (put writer) block(l []api.Stmt) {
	put("{")
	for _, s := range l {
		put.stmt(s)
	}
	put("}")
}

func (put writer) stmt(s api.Stmt) {
	switch s.Kind {
	case api.SIf:
		put.branch(s)
	case api.SWhile:
		put.loop(s)
	default:
		put.simple(s)
		put(";")
	}
}

func (put writer) branch(s api.Stmt) {
	put("if")
	put.cond(s.C)
	put.block(s.Body)
	if len(s.Else) > 0 {
		put("else")
		put.block(s.Else)
	}
}

func (put writer) loop(s api.Stmt) {
	put("while")
	put.cond(s.C)
	put.clauses("invariant", s.Inv)
	if s.Has {
		put.assigns(s.Names)
	}
	put.block(s.Body)
}

// simple puts a statement without bodies, up to its `;`.
func (put writer) simple(s api.Stmt) {
	switch s.Kind {
	case api.SLet:
		put("let", s.Name, ":", typ.Name(s.T), "=")
		put.expr(s.E)
	case api.SArray:
		put("let", s.Name, ":", typ.Name(s.T), "[", size(s.Size), "]")
	case api.SSet:
		put(s.Name, "=")
		put.expr(s.E)
	case api.SElem:
		put(s.Name, "[")
		put.expr(s.X)
		put("]", "=")
		put.expr(s.E)
	case api.SCall:
		put.call(s)
	case api.SBreak:
		put("break")
	case api.SContinue:
		put("continue")
	case api.SReturn:
		put.leave(s)
	case api.SAssert:
		put("assert")
		put.cond(s.C)
	case api.SInput:
		put("input", s.Name)
	}
}

func (put writer) call(s api.Stmt) {
	put("call")
	if s.Has {
		put(s.Name, "=")
	}
	put(s.To, "(")
	joined(put, s.Args, put.expr)
	put(")")
}

func (put writer) leave(s api.Stmt) {
	put("return")
	if s.Has {
		put.expr(s.E)
	}
}
