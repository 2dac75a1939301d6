package lower

import (
	"fmt"

	"calliper/api"
)

// A grower makes bodies of statements, each thing of which stands at a place of its own.
type grower struct {
	d  dice
	at int
}

func (g *grower) place() int {
	g.at++
	return g.at
}

// exprs are nodes, with room behind them.
func (g *grower) exprs() []api.Expr {
	l := make([]api.Expr, 0, 4)
	for i := range g.d.roll(4) {
		l = append(l, api.Expr{Kind: api.ECom, Num: g.d.roll(9), Name: fmt.Sprint("n", g.d.roll(9)), A: i - 1, B: -1, At: g.place()})
	}
	return l
}

// cond is a tree in post order.
func (g *grower) cond(deep int) []api.Cond {
	l := make([]api.Cond, 0, 4)
	g.node(&l, deep)
	return l
}

func (g *grower) node(l *[]api.Cond, deep int) int {
	n := api.Cond{Kind: api.CRel, A: -1, B: -1, At: g.place()}
	if deep > 0 {
		n.Kind = pick(&g.d, api.CRel, api.CNot, api.CAnd, api.COr, api.CAnd, api.COr)
	}
	switch n.Kind {
	case api.CRel:
		n.Rel, n.X, n.Y = 1+g.d.roll(6), g.exprs(), g.exprs()
	case api.CNot:
		n.A = g.node(l, deep-1)
	default:
		n.A = g.node(l, deep-1)
		n.B = g.node(l, deep-1)
	}
	*l = append(*l, n)
	return len(*l) - 1
}

func (g *grower) block(deep int) []api.Stmt {
	l := make([]api.Stmt, 0, 6)
	for range g.d.roll(5) {
		l = append(l, g.stmt(deep))
	}
	return l
}

// stmt may have what its kind has not: that is not to be seen.
func (g *grower) stmt(deep int) api.Stmt {
	s := api.Stmt{At: g.place(), Name: fmt.Sprint("n", g.d.roll(9)), T: g.d.roll(7), Size: g.d.roll(4), X: g.exprs(), E: g.exprs(), Has: g.d.roll(2) == 0, To: "g"}
	s.Kind = pick(&g.d, api.SLet, api.SArray, api.SSet, api.SElem, api.SCall, api.SReturn, api.SBreak, api.SContinue, api.SAssert, api.SInput)
	if deep > 0 && g.d.roll(2) == 0 {
		s.Kind = pick(&g.d, api.SIf, api.SWhile)
	}
	for range g.d.roll(3) {
		s.Args = append(s.Args, g.exprs())
		s.Names = append(s.Names, "x")
	}
	s.C = g.cond(2)
	for range g.d.roll(3) {
		s.Inv = append(s.Inv, api.Clause{At: g.place(), C: g.cond(1)})
	}
	if deep > 0 {
		s.Body, s.Else = g.block(deep-1), g.block(deep-1)
	}
	return s
}

func (g *grower) function() api.Func {
	g.at = 0
	return api.Func{Name: "f", Body: g.block(3)}
}
