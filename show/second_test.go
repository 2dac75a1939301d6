package show

import (
	"fmt"
	"reflect"
	"slices"
	"strings"
	"testing"

	"calliper/api"
	"calliper/parse"
)

// A second way to what Print tells: the text is made of whatever tree there is, parsed, and held against the tree. `?` is no token: it stands where there is nothing to be made.

func textOf(p api.Program) string {
	var l []string
	for _, g := range p.Globals {
		s := fmt.Sprintf("global %s : %s", g.Name, typeText(g.T))
		if g.Size != 0 {
			s += fmt.Sprintf(" [ %s ]", sizeText(g.Size))
		}
		if g.Size == 0 || g.Init != 0 {
			s += " = " + strings.Replace(sizeText(g.Init), "-", "- ", 1)
		}
		l = append(l, s+" ;")
	}
	for _, f := range p.Funcs {
		l = append(l, funcText(f))
	}
	return strings.Join(l, " ")
}

func funcText(f api.Func) string {
	var params []string
	for _, p := range f.Params {
		s := p.Name + " : " + typeText(p.T)
		if p.Size != 0 {
			s += " [ " + sizeText(p.Size) + " ]"
		}
		params = append(params, s)
	}
	s := words("fn", f.Name, "(", strings.Join(params, " , "), ")")
	if f.T != 0 {
		s += " : " + typeText(f.T)
	}
	s = words(s, clauseText("requires", f.Requires), clauseText("ensures", f.Ensures))
	if len(f.Names) > 0 {
		s += " assigns " + strings.Join(f.Names, " , ") + " ;"
	}
	return words(s, blockText(f.Body))
}

// words leaves out what is empty.
func words(l ...string) string {
	return strings.Join(slices.DeleteFunc(l, func(s string) bool { return s == "" }), " ")
}

func clauseText(word string, l []api.Clause) string {
	s := ""
	for _, c := range l {
		s = words(s, word, condText(c.C, len(c.C)-1, false), ";")
	}
	return s
}

func blockText(l []api.Stmt) string {
	s := "{"
	for _, k := range l {
		s = words(s, stmtText(k))
	}
	return s + " }"
}

func stmtText(s api.Stmt) string {
	e, c := rootText(s.E), condText(s.C, len(s.C)-1, false)
	switch s.Kind {
	case api.SLet:
		return words("let", s.Name, ":", typeText(s.T), "=", e, ";")
	case api.SArray:
		return words("let", s.Name, ":", typeText(s.T), "[", sizeText(s.Size), "] ;")
	case api.SSet:
		return words(s.Name, "=", e, ";")
	case api.SElem:
		return words(s.Name, "[", rootText(s.X), "] =", e, ";")
	case api.SCall:
		var args []string
		for _, a := range s.Args {
			args = append(args, rootText(a))
		}
		to := ""
		if s.Has {
			to = s.Name + " ="
		}
		return words("call", to, s.To, "(", strings.Join(args, " , "), ") ;")
	case api.SIf:
		text := words("if", c, blockText(s.Body))
		if len(s.Else) > 0 {
			text += " else " + blockText(s.Else)
		}
		return text
	case api.SWhile:
		names := ""
		if s.Has {
			names = "assigns " + strings.Join(s.Names, " , ") + " ;"
		}
		if s.Has && len(s.Names) == 0 {
			names = "assigns nothing ;"
		}
		return words("while", c, clauseText("invariant", s.Inv), names, blockText(s.Body))
	case api.SBreak:
		return "break ;"
	case api.SContinue:
		return "continue ;"
	case api.SReturn:
		if s.Has {
			return words("return", e, ";")
		}
		return "return ;"
	case api.SAssert:
		return words("assert", c, ";")
	case api.SInput:
		return words("input", s.Name, ";")
	}
	return "?"
}

func condText(l []api.Cond, i int, part bool) string {
	if i < 0 || i >= len(l) {
		return "?"
	}
	n := l[i]
	// A kid that is no earlier than its parent would never end.
	a, b := "?", "?"
	if n.A < i {
		a = condText(l, n.A, true)
	}
	if n.B < i {
		b = condText(l, n.B, true)
	}
	s := "?"
	switch n.Kind {
	case api.CRel:
		if n.Rel < api.REq || n.Rel > api.RGe {
			return "?"
		}
		return words(rootText(n.X), strings.Fields("== != < <= > >=")[n.Rel-1], rootText(n.Y))
	case api.CNot:
		s = words("not", a)
	case api.CAnd:
		s = words(a, "and", b)
	case api.COr:
		s = words(a, "or", b)
	}
	if part {
		return "[ " + s + " ]"
	}
	return s
}

func rootText(l []api.Expr) string { return exprText(l, len(l)-1, false) }

func exprText(l []api.Expr, i int, operand bool) string {
	if i < 0 || i >= len(l) {
		return "?"
	}
	n := l[i]
	kid := func(place int, operand bool) string {
		if place >= i {
			return "?"
		}
		return exprText(l, place, operand)
	}
	s := "?"
	switch n.Kind {
	case api.ENum:
		if n.T == api.U32 {
			return fmt.Sprintf("%du", n.Num)
		}
		return fmt.Sprint(n.Num)
	case api.EVar:
		return n.Name
	case api.EElem:
		return words(n.Name, "[", kid(n.A, false), "]")
	case api.EOld:
		return words("old (", kid(n.A, false), ")")
	case api.EResult:
		return "result"
	case api.ECast:
		return words(typeText(n.T), "(", kid(n.A, false), ")")
	case api.ENeg:
		s = words("-", kid(n.A, true))
	case api.ECom:
		s = words("~", kid(n.A, true))
	}
	if signs := operators(); n.Kind >= api.EAdd && n.Kind <= api.EShr {
		s = words(kid(n.A, true), signs[n.Kind-api.EAdd], kid(n.B, true))
	}
	if operand {
		return "( " + s + " )"
	}
	return s
}

func typeText(k int) string {
	if l := strings.Fields("i8 u8 i16 u16 i32 u32"); k >= 1 && k <= len(l) {
		return l[k-1]
	}
	return "?"
}

func sizeText(v int) string {
	if v > 1<<31-1 || -v > 1<<31-1 {
		return fmt.Sprintf("%du", v)
	}
	return fmt.Sprint(v)
}

// compare holds Print against the second way; it tells whether p was right.
func compare(t *testing.T, p api.Program) bool {
	t.Helper()
	text := textOf(p)
	if len(text) > api.MaxText {
		return false
	}
	got, e := Print(p)
	again, bad, _ := parse.Program(text)
	if bad != api.OK || !alike(p, again) {
		if e != api.ErrArg || got != "" {
			t.Errorf("4.2: Print: error %d beside %q, though %q is parsed with error %d, or not as the same", e, got, text, bad)
		}
		return false
	}
	if e != api.OK || got != text {
		t.Errorf("4.2: Print: error %d\n got %q\nwant %q", e, got, text)
	}
	if !Same(p, again) {
		t.Errorf("4.3: %q is not parsed as the same", text)
	}
	return true
}

// grower makes trees by the dice; depth is how much deeper they may get.
type grower struct{ d *dice }

func (g grower) name() string { return pick(g.d, "a", "b", "x", "y9", "long_name_of_21_bytes") }

func (g grower) typ() int { return 1 + g.d.roll(6) }

func (g grower) size() int { return pick(g.d, 0, 1, 2, 16, 1<<31-1, 1<<31, 1<<32-1) }

func (g grower) program() api.Program {
	var p api.Program
	for range g.d.roll(3) {
		p.Globals = append(p.Globals, api.Global{Name: g.name(), T: g.typ(), Size: g.size(), Init: pick(g.d, 0, 1, -1, 1<<31, -1<<31)})
	}
	for range g.d.roll(3) {
		f := api.Func{Name: g.name(), T: g.d.roll(7), Requires: g.clauses(3), Ensures: g.clauses(3), Names: g.names(), Body: g.block(4)}
		for range g.d.roll(3) {
			f.Params = append(f.Params, api.Param{Name: g.name(), T: g.typ(), Size: g.size()})
		}
		p.Funcs = append(p.Funcs, f)
	}
	return p
}

func (g grower) names() (l []string) {
	for range g.d.roll(3) {
		l = append(l, g.name())
	}
	return l
}

func (g grower) clauses(depth int) (l []api.Clause) {
	for range g.d.roll(3) {
		l = append(l, api.Clause{C: g.cond(depth)})
	}
	return l
}

func (g grower) block(depth int) (l []api.Stmt) {
	for range g.d.roll(4) {
		l = append(l, g.stmt(depth))
	}
	return l
}

func (g grower) stmt(depth int) api.Stmt {
	s := api.Stmt{Kind: 1 + g.d.roll(12)}
	if depth == 0 && (s.Kind == api.SIf || s.Kind == api.SWhile) {
		s.Kind = api.SInput
	}
	switch s.Kind {
	case api.SLet:
		s.Name, s.T, s.E = g.name(), g.typ(), g.expr(3)
	case api.SArray:
		s.Name, s.T, s.Size = g.name(), g.typ(), g.size()
	case api.SSet:
		s.Name, s.E = g.name(), g.expr(4)
	case api.SElem:
		s.Name, s.X, s.E = g.name(), g.expr(3), g.expr(3)
	case api.SCall:
		if s.Has = g.d.roll(2) == 0; s.Has {
			s.Name = g.name()
		}
		s.To = g.name()
		for range g.d.roll(4) {
			s.Args = append(s.Args, g.expr(2))
		}
	case api.SIf:
		s.C, s.Body, s.Else = g.cond(2), g.block(depth-1), g.block(depth-1)
	case api.SWhile:
		if s.Has = g.d.roll(2) == 0; s.Has {
			s.Names = g.names()
		}
		s.C, s.Inv, s.Body = g.cond(2), g.clauses(2), g.block(depth-1)
	case api.SReturn:
		if s.Has = g.d.roll(2) == 0; s.Has {
			s.E = g.expr(3)
		}
	case api.SAssert:
		s.C = g.cond(4)
	case api.SInput:
		s.Name = g.name()
	}
	return s
}

func (g grower) cond(depth int) (l []api.Cond) {
	var grow func(depth int) int
	grow = func(depth int) int {
		n := api.Cond{Kind: 1 + g.d.roll(4), A: -1, B: -1}
		if depth == 0 {
			n.Kind = api.CRel
		}
		switch n.Kind {
		case api.CRel:
			n.Rel, n.X, n.Y = 1+g.d.roll(6), g.expr(2), g.expr(2)
		case api.CNot:
			n.A = grow(depth - 1)
		default:
			n.A = grow(depth - 1)
			n.B = grow(depth - 1)
		}
		l = append(l, n)
		return len(l) - 1
	}
	grow(depth)
	return l
}

func (g grower) expr(depth int) (l []api.Expr) {
	var grow func(depth int) int
	grow = func(depth int) int {
		n := api.Expr{Kind: 1 + g.d.roll(18), A: -1, B: -1}
		if depth == 0 {
			n.Kind = pick(g.d, api.ENum, api.EVar, api.EResult)
		}
		switch n.Kind {
		case api.ENum:
			n.T = pick(g.d, api.I32, api.U32)
			n.Num = pick(g.d, 0, 1, 9, 1<<31-1)
		case api.EVar:
			n.Name = g.name()
		case api.EElem:
			n.Name, n.A = g.name(), grow(depth-1)
		case api.EResult:
		case api.ECast:
			n.T, n.A = g.typ(), grow(depth-1)
		case api.EOld, api.ENeg, api.ECom:
			n.A = grow(depth - 1)
		default:
			n.A = grow(depth - 1)
			n.B = grow(depth - 1)
		}
		l = append(l, n)
		return len(l) - 1
	}
	grow(depth)
	return l
}

// A name of 21 bytes is no name; all else that grows is right.
func (g grower) right() api.Program {
	p := g.program()
	l, _ := fields(reflect.ValueOf(&p).Elem(), "")
	for _, v := range l {
		if v.Kind() == reflect.String && len(v.String()) > api.MaxName {
			v.SetString(v.String()[:api.MaxName])
		}
	}
	return p
}

func TestGrownTrees(t *testing.T) {
	d := dice(11)
	right := 0
	for range 4000 {
		p := grower{&d}.right()
		if compare(t, p) {
			right++
		} else if len(textOf(p)) <= api.MaxText {
			t.Errorf("4.2: %q is not parsed as the same", textOf(p))
		}
		compare(t, grower{&d}.program())
	}
	if right < 3500 {
		t.Errorf("only %d of the trees were right", right)
	}
}

// turn changes one field or one list of p.
func turn(d *dice, p *api.Program) {
	l, _ := fields(reflect.ValueOf(p).Elem(), "")
	switch v := l[d.roll(len(l))]; v.Kind() {
	case reflect.Int:
		v.SetInt(pick(d, v.Int()+1, v.Int()-1, 0, -1, int64(d.roll(20)), -v.Int(), 1<<31, 1<<32))
	case reflect.String:
		v.SetString(pick(d, "", "q", "if", "1", "a b", "u8", "nothing", "x ; y"))
	case reflect.Bool:
		v.SetBool(!v.Bool())
	case reflect.Slice:
		turnList(d, v)
	}
}

func turnList(d *dice, v reflect.Value) {
	if v.Len() == 0 {
		v.Set(reflect.Append(v, reflect.Zero(v.Type().Elem())))
		return
	}
	i := d.roll(v.Len())
	switch d.roll(4) {
	case 0:
		v.Set(reflect.Append(v, v.Index(i)))
	case 1:
		v.Set(v.Slice(0, i))
	case 2:
		v.Set(v.Slice(i, v.Len()))
	case 3:
		j := d.roll(v.Len())
		a, b := reflect.ValueOf(v.Index(i).Interface()), reflect.ValueOf(v.Index(j).Interface())
		v.Index(i).Set(b)
		v.Index(j).Set(a)
	}
}

func TestTurnedTrees(t *testing.T) {
	d := dice(23)
	right, wrong := 0, 0
	for i := range 4500 {
		p := grower{&d}.right()
		if i%3 == 0 {
			p = mustProgram(t, rich)
		}
		for range 1 + d.roll(2) {
			p = clone(p)
			turn(&d, &p)
		}
		if compare(t, p) {
			right++
		} else {
			wrong++
		}
		// Between many statements the same is wrong, however long it gets.
		if i%50 == 0 {
			comparePadded(t, p)
		}
	}
	if right < 500 || wrong < 500 {
		t.Errorf("%d turned trees were right, %d wrong", right, wrong)
	}
}

func comparePadded(t *testing.T, p api.Program) {
	t.Helper()
	_, e := Print(p)
	if e == api.OK {
		e = api.ErrLong
	}
	pad := api.Func{Name: "pad", Body: slices.Repeat([]api.Stmt{{Kind: api.SBreak}}, 2000)}
	wantError(t, "a tree ahead of many statements", api.Program{Globals: p.Globals, Funcs: append(slices.Clone(p.Funcs), pad)}, e)
	wantError(t, "a tree behind many statements", api.Program{Globals: p.Globals, Funcs: append([]api.Func{pad}, p.Funcs...)}, e)
}
