package lower

import (
	"slices"

	"calliper/api"
)

// A builder puts instructions one behind the other. Each is put behind those to which it goes on, but for a loop's head.
type builder struct {
	l    []api.Instr
	left int // how many bytes of conditions may still be put
}

func (b *builder) put(i api.Instr) int {
	b.l = append(b.l, i)
	return len(b.l) - 1
}

// list puts statements that go on at next; a break among them goes on at brk, a continue at cont. It tells where they begin.
func (b *builder) list(body []api.Stmt, next, brk, cont int) int {
	for i := range slices.Backward(body) {
		next = b.stmt(&body[i], next, brk, cont)
	}
	return next
}

func (b *builder) stmt(s *api.Stmt, next, brk, cont int) int {
	switch s.Kind {
	case api.SIf:
		e := b.list(s.Else, next, brk, cont)
		return b.cond(s.C, b.list(s.Body, next, brk, cont), e)
	case api.SWhile:
		return b.loop(s, next)
	case api.SBreak:
		return brk
	case api.SContinue:
		return cont
	case api.SReturn:
		next = none
		fallthrough
	default:
		return b.put(api.Instr{Kind: api.IDo, At: s.At, S: plain(s), Next: next, Else: none})
	}
}

// loop puts a head ahead of all that leads back to it, so that it goes on at what is known last.
func (b *builder) loop(s *api.Stmt, next int) int {
	head := b.put(api.Instr{Kind: api.IHead, At: s.At, Else: none})
	first := b.cond(s.C, b.list(s.Body, head, next, head), next)
	for _, c := range slices.Backward(s.Inv) {
		first = b.put(api.Instr{Kind: api.IInv, At: c.At, Clause: clause(c), Next: first, Else: none})
	}
	b.l[head].Next = first
	return head
}
