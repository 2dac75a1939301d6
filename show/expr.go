package show

import (
	"slices"

	"calliper/api"
	"calliper/typ"
)

// Levels of nodes, from those that bind loosest on; levelPlain: what stands without brackets wherever it stands.
const (
	levelBits = iota
	levelShift
	levelSum
	levelTerm
	levelSign
	levelPlain
)

// operator is an operator's sign and its level; of other kinds of nodes the sign is empty.
func operator(kind int) (sign string, level int) {
	switch kind {
	case api.EAnd:
		return "&", levelBits
	case api.EOr:
		return "|", levelBits
	case api.EXor:
		return "^", levelBits
	case api.EShl:
		return "<<", levelShift
	case api.EShr:
		return ">>", levelShift
	case api.EAdd:
		return "+", levelSum
	case api.ESub:
		return "-", levelSum
	case api.EMul:
		return "*", levelTerm
	case api.EDiv:
		return "/", levelTerm
	case api.EMod:
		return "%", levelTerm
	case api.ENeg:
		return "-", levelSign
	case api.ECom:
		return "~", levelSign
	}
	return "", levelPlain
}

// piece of a text: a token, or, where that is empty, the node whose tokens stand there.
type piece struct {
	token string
	node  int
}

// expr keeps what is still to be put in a list of its own, not in calls: a sum of many numbers is as deep as it is long.
func (put writer) expr(l []api.Expr) {
	todo := []piece{{node: len(l) - 1}}
	for len(todo) > 0 {
		last := len(todo) - 1
		p := todo[last]
		todo = todo[:last]
		if p.token != "" {
			put(p.token)
			continue
		}
		parts := pieces(l, l[p.node])
		slices.Reverse(parts)
		todo = append(todo, parts...)
	}
}

// pieces is what the text of a node of l is made of.
func pieces(l []api.Expr, n api.Expr) []piece {
	sign, _ := operator(n.Kind)
	switch n.Kind {
	case api.ENum:
		return []piece{{token: number(n.Num, n.T)}}
	case api.EVar:
		return []piece{{token: n.Name}}
	case api.EResult:
		return []piece{{token: "result"}}
	case api.EElem:
		return []piece{{token: n.Name}, {token: "["}, {node: n.A}, {token: "]"}}
	case api.EOld:
		return append([]piece{{token: "old"}}, inBrackets(n.A)...)
	case api.ECast:
		return append([]piece{{token: typ.Name(n.T)}}, inBrackets(n.A)...)
	case api.ENeg, api.ECom:
		return append([]piece{{token: sign}}, operand(l, n.A)...)
	}
	return slices.Concat(operand(l, n.A), []piece{{token: sign}}, operand(l, n.B))
}

func operand(l []api.Expr, node int) []piece {
	if _, level := operator(l[node].Kind); level == levelPlain {
		return []piece{{node: node}}
	}
	return inBrackets(node)
}

func inBrackets(node int) []piece {
	return []piece{{token: "("}, {node: node}, {token: ")"}}
}
