package show

import (
	"slices"

	"calliper/api"
)

func sameGlobal(a, b api.Global) bool {
	a.At = b.At
	return a == b
}

func sameParam(a, b api.Param) bool {
	a.At = b.At
	return a == b
}

func sameFunc(a, b api.Func) bool {
	return a.Name == b.Name && a.T == b.T &&
		slices.EqualFunc(a.Params, b.Params, sameParam) &&
		slices.EqualFunc(a.Requires, b.Requires, sameClause) &&
		slices.EqualFunc(a.Ensures, b.Ensures, sameClause) &&
		slices.Equal(a.Names, b.Names) &&
		slices.EqualFunc(a.Body, b.Body, sameStmt)
}

func sameStmt(a, b api.Stmt) bool {
	return a.Kind == b.Kind && a.Name == b.Name && a.T == b.T && a.Size == b.Size && a.Has == b.Has && a.To == b.To &&
		sameExpr(a.X, b.X) &&
		sameExpr(a.E, b.E) &&
		slices.EqualFunc(a.Args, b.Args, sameExpr) &&
		slices.EqualFunc(a.C, b.C, sameCond) &&
		slices.EqualFunc(a.Inv, b.Inv, sameClause) &&
		slices.Equal(a.Names, b.Names) &&
		slices.EqualFunc(a.Body, b.Body, sameStmt) &&
		slices.EqualFunc(a.Else, b.Else, sameStmt)
}

func sameClause(a, b api.Clause) bool {
	return slices.EqualFunc(a.C, b.C, sameCond)
}

func sameCond(a, b api.Cond) bool {
	return a.Kind == b.Kind && a.Rel == b.Rel && a.A == b.A && a.B == b.B && sameExpr(a.X, b.X) && sameExpr(a.Y, b.Y)
}

func sameExpr(a, b []api.Expr) bool {
	return slices.EqualFunc(a, b, func(m, n api.Expr) bool {
		m.At = n.At
		return m == n
	})
}
