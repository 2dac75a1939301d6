package parse

import "calliper/api"

func (r *reader) block() []api.Stmt {
	var l []api.Stmt
	r.open("{")
	for !r.is("}") {
		l = append(l, r.stmt())
	}
	r.take("}")
	r.close()
	return l
}

func (r *reader) stmt() api.Stmt {
	at := r.peek().At
	s := r.stmtByWord()
	s.At = at
	return s
}

// stmtByWord tells statements apart by their first token; what begins with no key word sets something.
func (r *reader) stmtByWord() api.Stmt {
	switch r.peek().Text {
	case "let":
		return r.let()
	case "call":
		return r.call()
	case "if":
		return r.branch()
	case "while":
		return r.loop()
	case "break":
		return r.bare(api.SBreak)
	case "continue":
		return r.bare(api.SContinue)
	case "return":
		return r.leave()
	case "assert":
		return api.Stmt{Kind: api.SAssert, C: r.clause().C}
	case "input":
		return r.input()
	}
	return r.set()
}

func (r *reader) let() api.Stmt {
	r.take("let")
	s := api.Stmt{Kind: api.SLet, Name: r.name().Text}
	r.take(":")
	s.T = r.typeName()
	if r.is("[") {
		s.Kind, s.Size = api.SArray, r.size()
	} else {
		r.take("=")
		s.E = r.expr()
	}
	r.take(";")
	return s
}

func (r *reader) set() api.Stmt {
	s := api.Stmt{Kind: api.SSet, Name: r.name().Text}
	if r.is("[") {
		s.Kind = api.SElem
		r.index(&s.X)
	}
	r.take("=")
	s.E = r.expr()
	r.take(";")
	return s
}

func (r *reader) call() api.Stmt {
	r.take("call")
	s := api.Stmt{Kind: api.SCall, To: r.name().Text}
	// Only what follows the first name tells whether it takes the result or is called.
	if r.skip("=") {
		s.Has, s.Name = true, s.To
		s.To = r.name().Text
	}
	s.Args = r.args()
	r.take(";")
	return s
}

func (r *reader) args() [][]api.Expr {
	r.take("(")
	if r.skip(")") {
		return nil
	}
	l := [][]api.Expr{r.expr()}
	for r.skip(",") {
		l = append(l, r.expr())
	}
	r.take(")")
	return l
}

func (r *reader) branch() api.Stmt {
	r.take("if")
	s := api.Stmt{Kind: api.SIf, C: r.cond(), Body: r.block()}
	if r.skip("else") {
		s.Else = r.block()
	}
	return s
}

func (r *reader) loop() api.Stmt {
	r.take("while")
	s := api.Stmt{Kind: api.SWhile, C: r.cond()}
	for r.is("invariant") {
		s.Inv = append(s.Inv, r.clause())
	}
	if r.is("assigns") {
		s.Has, s.Names = true, r.assigns()
	}
	s.Body = r.block()
	return s
}

// bare reads a statement of one word alone.
func (r *reader) bare(kind int) api.Stmt {
	r.next()
	r.take(";")
	return api.Stmt{Kind: kind}
}

func (r *reader) leave() api.Stmt {
	r.take("return")
	s := api.Stmt{Kind: api.SReturn}
	if !r.is(";") {
		s.Has, s.E = true, r.expr()
	}
	r.take(";")
	return s
}

func (r *reader) input() api.Stmt {
	r.take("input")
	s := api.Stmt{Kind: api.SInput, Name: r.name().Text}
	r.take(";")
	return s
}

// clause reads the word ahead, whichever it is, and the condition behind it.
func (r *reader) clause() api.Clause {
	c := api.Clause{At: r.next().At}
	c.C = r.cond()
	r.take(";")
	return c
}

// assigns reads the names that are said to be written; none, of `nothing`.
func (r *reader) assigns() []string {
	r.take("assigns")
	var l []string
	if !r.skip("nothing") {
		l = r.names()
	}
	r.take(";")
	return l
}

func (r *reader) names() []string {
	l := []string{r.name().Text}
	for r.skip(",") {
		l = append(l, r.name().Text)
	}
	return l
}
