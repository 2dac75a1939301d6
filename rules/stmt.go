package rules

import "calliper/api"

// block looks at statements; what they make is gone behind them.
func (k *checker) block(body []api.Stmt) {
	defer k.leave(len(k.things))
	for _, s := range body {
		k.stmt(s)
	}
}

func (k *checker) stmt(s api.Stmt) {
	k.expr(s.X, inCode)
	k.expr(s.E, inCode)
	where := inCode
	if s.Kind == api.SAssert {
		where = inClaim
	}
	k.cond(s.C, where)
	k.args(s)
	for _, c := range s.Inv {
		k.cond(c.C, inClaim)
	}
	k.own(s)
	k.writes(s)
}

// own looks at what is the statement's own, behind its expressions.
func (k *checker) own(s api.Stmt) {
	switch s.Kind {
	case api.SLet, api.SArray:
		k.let(s)
	case api.SCall:
		k.tell(s.At, s.To, k.call(s))
		if !s.Has {
			break
		}
		fallthrough
	case api.SSet, api.SInput:
		k.tell(s.At, s.Name, k.scalar(s.Name))
	case api.SElem:
		k.tell(s.At, s.Name, k.array(s.Name))
	case api.SReturn:
		k.tell(s.At, "", k.result(s))
	case api.SBreak, api.SContinue:
		k.tell(s.At, "", k.inLoop())
	case api.SWhile:
		k.loop(s)
	case api.SIf:
		k.block(s.Body)
		k.block(s.Else)
	}
}

func (k *checker) let(s api.Stmt) {
	err := k.unused(s.Name)
	if k.lets[s.Name] > 0 {
		err = broken(api.FTwice)
	}
	k.tell(s.At, s.Name, err)
	if s.Kind == api.SArray {
		k.tell(s.At, s.Name, size(s.Size))
	}
	k.lets[s.Name]++
	k.stand(thing{name: s.Name, t: s.T, size: s.Size, array: s.Kind == api.SArray, from: fromLet})
}

// result: a return has a value just if its function has a result.
func (k *checker) result(s api.Stmt) error {
	if s.Has == (k.f.T != 0) {
		return nil
	}
	return broken(api.FResult)
}

func (k *checker) inLoop() error {
	if len(k.loops) > 0 {
		return nil
	}
	return broken(api.FLoop)
}

func (k *checker) loop(s api.Stmt) {
	for _, name := range s.Names {
		k.tell(s.At, name, k.there(name))
	}
	k.loops = append(k.loops, s)
	k.block(s.Body)
	k.loops = k.loops[:len(k.loops)-1]
}
