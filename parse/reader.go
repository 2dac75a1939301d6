package parse

import (
	"calliper/api"
	"calliper/lex"
	"calliper/typ"
)

// fault is what a reader panics with when it gives up.
type fault struct {
	e  api.Errno
	at int
}

// reader goes through the tokens of a source by the rules of the grammar.
type reader struct {
	list  []api.Token
	place int
	depth int
	deep  fault
}

// peek is the token ahead. The last one, TokEnd, is never taken, so that there always is one.
func (r *reader) peek() api.Token { return r.list[r.place] }

func (r *reader) is(text string) bool { return r.peek().Text == text }

func (r *reader) refuse() { panic(fault{api.ErrSyntax, r.peek().At}) }

func (r *reader) next() api.Token {
	t := r.peek()
	r.place++
	return t
}

func (r *reader) take(text string) int {
	if !r.is(text) {
		r.refuse()
	}
	return r.next().At
}

// skip takes a token if it stands there, and tells whether it did.
func (r *reader) skip(text string) bool {
	if !r.is(text) {
		return false
	}
	r.next()
	return true
}

// open takes a token that is one deeper until it is closed. It does not give up where that is too deep: whatever is wrong with the syntax, even further on, counts ahead of that.
func (r *reader) open(text string) int {
	at := r.take(text)
	r.depth++
	if r.depth > api.MaxNest && r.deep.e == api.OK {
		r.deep = fault{api.ErrDeep, at}
	}
	return at
}

func (r *reader) close() { r.depth-- }

// finish gives up if there is a token left, or if one was too deep.
func (r *reader) finish() {
	if r.peek().Kind != api.TokEnd {
		r.refuse()
	}
	if r.deep.e != api.OK {
		panic(r.deep)
	}
}

func (r *reader) name() api.Token {
	if r.peek().Kind != api.TokName {
		r.refuse()
	}
	return r.next()
}

// num is a number's value and its type.
func (r *reader) num() (v, t int) {
	if r.peek().Kind != api.TokNum {
		r.refuse()
	}
	v, t, _ = lex.Number(r.next().Text)
	return v, t
}

func (r *reader) typeName() int {
	t := typ.Read(r.peek().Text)
	if t == 0 {
		r.refuse()
	}
	r.next()
	return t
}

// size is the number in an array's brackets, whatever its type.
func (r *reader) size() int {
	r.take("[")
	v, _ := r.num()
	r.take("]")
	return v
}

// sizeIfAny is 0 where no brackets stand: a scalar.
func (r *reader) sizeIfAny() int {
	if !r.is("[") {
		return 0
	}
	return r.size()
}
