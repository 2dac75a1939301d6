package parse

import (
	"calliper/api"
	"calliper/typ"
)

// Levels of operators that have two operands, from the loosest on; what they join in the end are unaries.
const (
	levelBits = iota
	levelShift
	levelSum
	levelTerm
	levelUnary
)

// operator is the kind of node that a sign between two operands makes, and its level; -1: it is no such sign.
func operator(sign string) (kind, level int) {
	switch sign {
	case "&":
		return api.EAnd, levelBits
	case "|":
		return api.EOr, levelBits
	case "^":
		return api.EXor, levelBits
	case "<<":
		return api.EShl, levelShift
	case ">>":
		return api.EShr, levelShift
	case "+":
		return api.EAdd, levelSum
	case "-":
		return api.ESub, levelSum
	case "*":
		return api.EMul, levelTerm
	case "/":
		return api.EDiv, levelTerm
	case "%":
		return api.EMod, levelTerm
	}
	return 0, -1
}

// expr reads an expression into a list of its own.
func (r *reader) expr() []api.Expr {
	var l []api.Expr
	r.chain(&l, levelBits)
	return l
}

// chain reads operands and the operators of one level between them, and tells the root's place in the list.
func (r *reader) chain(l *[]api.Expr, level int) int {
	if level == levelUnary {
		return r.unary(l)
	}
	left := r.chain(l, level+1)
operators:
	for {
		switch kind, own := operator(r.peek().Text); own {
		case level:
			at := r.next().At
			right := r.chain(l, level+1)
			left = addExpr(l, api.Expr{Kind: kind, A: left, B: right, At: at})
		default:
			break operators
		}
	}
	return left
}

func (r *reader) unary(l *[]api.Expr) int {
	t := r.peek()
	n := api.Expr{A: -1, B: -1, At: t.At}
	switch {
	case t.Kind == api.TokNum:
		n.Kind = api.ENum
		n.Num, n.T = r.num()
	case t.Kind == api.TokName:
		r.named(l, &n)
	case typ.Read(t.Text) != 0:
		n.Kind, n.T = api.ECast, r.typeName()
		n.A = r.inBrackets(l)
	case t.Text == "old":
		r.next()
		n.Kind, n.A = api.EOld, r.inBrackets(l)
	case t.Text == "result":
		r.next()
		n.Kind = api.EResult
	case t.Text == "-":
		n.Kind, n.A = api.ENeg, r.signed(l)
	case t.Text == "~":
		n.Kind, n.A = api.ECom, r.signed(l)
	default:
		return r.inBrackets(l)
	}
	return addExpr(l, n)
}

// named reads a variable or an array's element into a node.
func (r *reader) named(l *[]api.Expr, n *api.Expr) {
	n.Kind, n.Name = api.EVar, r.next().Text
	if r.is("[") {
		n.Kind, n.A = api.EElem, r.index(l)
	}
}

// signed reads the operand of the sign ahead, which stays open until the operand ends.
func (r *reader) signed(l *[]api.Expr) int {
	r.open(r.peek().Text)
	root := r.unary(l)
	r.close()
	return root
}

func (r *reader) inBrackets(l *[]api.Expr) int {
	r.open("(")
	root := r.chain(l, levelBits)
	r.take(")")
	r.close()
	return root
}

func (r *reader) index(l *[]api.Expr) int {
	r.open("[")
	root := r.chain(l, levelBits)
	r.take("]")
	r.close()
	return root
}

// addExpr puts a node behind its kids, and tells its place.
func addExpr(l *[]api.Expr, n api.Expr) int {
	*l = append(*l, n)
	return len(*l) - 1
}
