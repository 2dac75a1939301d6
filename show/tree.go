package show

import (
	"slices"

	"calliper/api"
	"calliper/lex"
	"calliper/typ"
)

// The functions below tell whether the text of a tree is read as the same tree, without reading it: layer 3 refuses texts that are too long, whatever else is wrong with them, and that is to count last. depth is how deep the text is where a part begins.

func isProgram(p api.Program) bool {
	return all(p.Globals, isGlobal) && all(p.Funcs, isFunc)
}

func isGlobal(g api.Global) bool {
	return isDeclared(g.Name, g.T, g.Size) && (isSize(g.Init) || isSize(-g.Init))
}

func isFunc(f api.Func) bool {
	return isName(f.Name) && (f.T == 0 || isType(f.T)) &&
		all(f.Params, func(p api.Param) bool { return isDeclared(p.Name, p.T, p.Size) }) &&
		areClauses(f.Requires, 0) && areClauses(f.Ensures, 0) && all(f.Names, isName) && isBlock(f.Body, 1)
}

func isDeclared(name string, t, elements int) bool {
	return isName(name) && isType(t) && isSize(elements)
}

func isBlock(l []api.Stmt, depth int) bool {
	return depth <= api.MaxNest && all(l, func(s api.Stmt) bool { return isStmt(s, depth) })
}

func isStmt(s api.Stmt, depth int) bool {
	if !sameStmt(rest(s), api.Stmt{Kind: s.Kind}) {
		return false
	}
	switch s.Kind {
	case api.SLet:
		return isName(s.Name) && isType(s.T) && isExpr(s.E, depth)
	case api.SArray:
		return isDeclared(s.Name, s.T, s.Size)
	case api.SSet:
		return isName(s.Name) && isExpr(s.E, depth)
	case api.SElem:
		return isName(s.Name) && isExpr(s.X, depth+1) && isExpr(s.E, depth)
	case api.SCall:
		return (!s.Has || isName(s.Name)) && isName(s.To) && all(s.Args, func(l []api.Expr) bool { return isExpr(l, depth) })
	case api.SIf:
		return isCond(s.C, depth) && isBlock(s.Body, depth+1) && (len(s.Else) == 0 || isBlock(s.Else, depth+1))
	case api.SWhile:
		return isCond(s.C, depth) && areClauses(s.Inv, depth) && all(s.Names, isName) && isBlock(s.Body, depth+1)
	case api.SBreak, api.SContinue:
		return true
	case api.SReturn:
		return !s.Has || isExpr(s.E, depth)
	case api.SAssert:
		return isCond(s.C, depth)
	case api.SInput:
		return isName(s.Name)
	}
	return false
}

// rest is a statement without what its kind has: of one that layer 3 makes only the kind is left.
func rest(s api.Stmt) api.Stmt {
	switch s.Kind {
	case api.SLet:
		s.Name, s.T, s.E = "", 0, nil
	case api.SArray:
		s.Name, s.T, s.Size = "", 0, 0
	case api.SSet:
		s.Name, s.E = "", nil
	case api.SElem:
		s.Name, s.X, s.E = "", nil, nil
	case api.SCall:
		if s.Has {
			s.Has, s.Name = false, ""
		}
		s.To, s.Args = "", nil
	case api.SIf:
		s.C, s.Body, s.Else = nil, nil, nil
	case api.SWhile:
		if s.Has {
			s.Has, s.Names = false, nil
		}
		s.C, s.Inv, s.Body = nil, nil, nil
	case api.SReturn:
		if s.Has {
			s.Has, s.E = false, nil
		}
	case api.SAssert:
		s.C = nil
	case api.SInput:
		s.Name = ""
	}
	return s
}

func areClauses(l []api.Clause, depth int) bool {
	return all(l, func(c api.Clause) bool { return isCond(c.C, depth) })
}

func isCond(l []api.Cond, depth int) bool {
	n, ok := condNestOf(l)
	return ok && depth+n.shown <= api.MaxNest
}

func isExpr(l []api.Expr, depth int) bool {
	n, ok := nestOf(l)
	return ok && depth+n.shown <= api.MaxNest
}

// isName asks layer 2: a name is one token, and nothing beside it.
func isName(s string) bool {
	l, e, _ := lex.Lex(s)
	return e == api.OK && l[0].Kind == api.TokName && l[0].Text == s
}

func isType(t int) bool { return typ.Name(t) != "" }

// isNumber asks layer 2 likewise: what is put is to be read as what it was.
func isNumber(v, t int) bool {
	gotV, gotT, ok := lex.Number(number(v, t))
	return ok && gotV == v && gotT == t
}

func isSize(v int) bool { return isNumber(v, api.I32) || isNumber(v, api.U32) }

func all[T any](l []T, is func(v T) bool) bool {
	return !slices.ContainsFunc(l, func(v T) bool { return !is(v) })
}
