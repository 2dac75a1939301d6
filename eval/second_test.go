package eval

import (
	"fmt"
	"math/big"
	"testing"

	"calliper/api"
	"calliper/memory"
	"calliper/rules"
)

// A second is Value and Test once more, from the chapter's words: it goes down a tree, and reckons with numbers of any length.
type second struct {
	l   []api.Expr
	e   Env
	old bool
}

// isU32 tells which of the two types that are reckoned with it is.
func isU32(t int) bool { return t == api.U32 }

func wide(u bool) int {
	if u {
		return api.U32
	}
	return api.I32
}

// into is v modulo 2 to the type's bits.
func into(t, v int) int {
	switch t {
	case api.I8:
		return int(int8(v))
	case api.U8:
		return int(uint8(v))
	case api.I16:
		return int(int16(v))
	case api.U16:
		return int(uint16(v))
	case api.I32:
		return int(int32(v))
	}
	return int(uint32(v))
}

func (s second) bind(name string) (*memory.Mem, *api.Bind) {
	m, binds := s.e.Mem, s.e.Binds
	if s.old {
		m, binds = s.e.Old, s.e.Olds
	}
	var last *api.Bind
	for i := range binds {
		if m != nil && binds[i].Name == name {
			last = &binds[i]
		}
	}
	return m, last
}

func (s second) block(m *memory.Mem, id, at int) int {
	b, ok := m.Block(id)
	if !ok || at >= len(b.Vals) {
		return 0
	}
	return b.Vals[at]
}

func (s second) value(at int) (v, t, ub, where int) {
	n := s.l[at]
	m, b := s.bind(n.Name)
	switch n.Kind {
	case api.ENum:
		return n.Num, n.T, 0, 0
	case api.EResult:
		return s.e.Result, s.e.T, 0, 0
	case api.EOld:
		s.old = true
		return s.value(n.A)
	case api.EVar:
		if b == nil {
			return 0, api.I32, 0, 0
		}
		return s.block(m, b.Id, 0), b.T, 0, 0
	case api.EElem:
		i, _, ub, where := s.value(n.A)
		switch {
		case b == nil:
			return 0, api.I32, ub, where
		case ub != 0:
			return 0, b.T, ub, where
		case i < 0 || i >= b.Size && i > 0:
			return 0, b.T, api.UbIndex, n.At
		}
		return s.block(m, b.Id, i), b.T, 0, 0
	case api.ECast:
		v, _, ub, where := s.value(n.A)
		return into(n.T, v), n.T, ub, where
	case api.ENeg, api.ECom:
		v, t, ub, where := s.value(n.A)
		return s.both(n, isU32(t), v, 0, ub, where)
	}
	x, tx, ub, where := s.value(n.A)
	y, ty, ub2, where2 := s.value(n.B)
	if ub == 0 {
		ub, where = ub2, where2
	}
	if n.Kind == api.EShl || n.Kind == api.EShr {
		return s.both(n, isU32(tx), x, y, ub, where)
	}
	u := isU32(tx) || isU32(ty)
	return s.both(n, u, x, into(wide(u), y), ub, where)
}

// both is what an operator makes of two numbers, unless they have undefined behaviour.
func (s second) both(n api.Expr, u bool, a, b, ub, where int) (int, int, int, int) {
	if ub != 0 {
		return 0, wide(u), ub, where
	}
	v, ub := secondDo(n.Kind, u, into(wide(u), a), b)
	if ub != 0 {
		return 0, wide(u), ub, n.At
	}
	return v, wide(u), 0, 0
}

func secondDo(kind int, u bool, a, b int) (int, int) {
	x, y, z := big.NewInt(int64(a)), big.NewInt(int64(b)), new(big.Int)
	switch kind {
	case api.ENeg:
		z.Neg(x)
	case api.ECom:
		z.Not(x)
	case api.EAdd:
		z.Add(x, y)
	case api.ESub:
		z.Sub(x, y)
	case api.EMul:
		z.Mul(x, y)
	case api.EDiv, api.EMod:
		if b == 0 {
			return 0, api.UbDiv
		}
		rest := new(big.Int)
		z.QuoRem(x, y, rest)
		// A rest is undefined where its quotient has no room.
		if kind == api.EMod && (u || z.Int64() != 1<<31) {
			z = rest
		}
	case api.EAnd:
		z.And(x, y)
	case api.EOr:
		z.Or(x, y)
	case api.EXor:
		z.Xor(x, y)
	case api.EShl, api.EShr:
		if b < 0 || b > 31 {
			return 0, api.UbShift
		}
		if kind == api.EShr {
			z.Rsh(x, uint(b))
			break
		}
		if a < 0 {
			return 0, api.UbOver
		}
		z.Lsh(x, uint(b))
	}
	if u {
		return int(z.Mod(z, big.NewInt(1<<32)).Int64()), 0
	}
	if z.Cmp(big.NewInt(-1<<31)) < 0 || z.Cmp(big.NewInt(1<<31)) >= 0 {
		return 0, api.UbOver
	}
	return int(z.Int64()), 0
}

func secondTest(l []api.Cond, at int, e Env) (is bool, ub, where int) {
	n := l[at]
	switch n.Kind {
	case api.CNot:
		is, ub, where = secondTest(l, n.A, e)
		return ub == 0 && !is, ub, where
	case api.CAnd:
		is, ub, where = secondTest(l, n.A, e)
		if !is {
			return false, ub, where
		}
		return secondTest(l, n.B, e)
	case api.COr:
		is, ub, where = secondTest(l, n.A, e)
		if is || ub != 0 {
			return is, ub, where
		}
		return secondTest(l, n.B, e)
	}
	x, tx, ub, where := second{l: n.X, e: e}.value(len(n.X) - 1)
	if ub != 0 {
		return false, ub, where
	}
	y, ty, ub, where := second{l: n.Y, e: e}.value(len(n.Y) - 1)
	if ub != 0 {
		return false, ub, where
	}
	t := wide(isU32(tx) || isU32(ty))
	x, y = into(t, x), into(t, y)
	switch n.Rel {
	case api.REq:
		return x == y, 0, 0
	case api.RNe:
		return x != y, 0, 0
	case api.RLt:
		return x < y, 0, 0
	case api.RLe:
		return x <= y, 0, 0
	case api.RGt:
		return x > y, 0, 0
	}
	return x >= y, 0, 0
}

// TestOperatorsOverMixedTypes: each operator, of each two types, with numbers around nought and the ends.
func TestOperatorsOverMixedTypes(t *testing.T) {
	vals := []int{0, 1, -1, 2, 31, 32, 127, 128, -128, 255, 32767, 40000, -32768, 65535, 2147483647, -2147483648, -2147483647, 3000000000, 4294967295}
	signs := []string{"+", "-", "*", "/", "%", "&", "|", "^", "<<", ">>"}
	for _, x := range vals {
		for _, y := range vals {
			e := world(oneOfEach(x), oneOfEach(y))
			for a := api.I8; a <= api.U32; a++ {
				for b := api.I8; b <= api.U32; b++ {
					for _, sign := range signs {
						checkSecond(t, fmt.Sprintf("v%d %s old ( v%d )", a, sign, b), e)
					}
				}
			}
		}
		e := world(oneOfEach(x), "")
		for a := api.I8; a <= api.U32; a++ {
			for _, word := range append([]string{"-", "~", "- -", "~ ~", "- ~"}, typeNames[1:]...) {
				checkSecond(t, fmt.Sprintf("%s ( v%d )", word, a), e)
			}
		}
	}
}

// checkSecond holds each node of an expression against the second reckoning, and tells the undefined behaviour of the last.
func checkSecond(t *testing.T, src string, e Env) int {
	t.Helper()
	l := mustExpr(t, src)
	last := 0
	for at := range l {
		v, ty, ub, where := Value(l, at, e)
		w, tw, ub2, where2 := second{l: l, e: e}.value(at)
		if ub2 != 0 {
			w = 0
		}
		if v != w || ty != tw || ub != ub2 || where != where2 {
			t.Errorf("8.1: %s: node %d is %s at %d, not %s at %d", src, at, answerText(v, ty, ub), where, answerText(w, tw, ub2), where2)
		}
		last = ub
	}
	return last
}

// A grower makes expressions and conditions.
type grower struct{ d dice }

func (g *grower) expr(deep int) string {
	if deep == 0 {
		n := 1 + g.d.roll(6)
		return pick(&g.d, "0", "1", "2", "5u", "40", "2147483647", "4294967295u", "result", "nix", "lost", "twice", fmt.Sprint("v", n), fmt.Sprint("v", n), fmt.Sprint("a", n), fmt.Sprint("a", n, " [ ", pick(&g.d, "0", "1", "2", "3", "- 1"), " ]"))
	}
	e := func() string { return "( " + g.expr(g.d.roll(deep)) + " )" }
	switch g.d.roll(9) {
	case 0:
		return pick(&g.d, "- ", "~ ") + e()
	case 1:
		return pick(&g.d, typeNames[1:]...) + e()
	case 2:
		return "old " + e()
	case 3:
		return pick(&g.d, "a1", "a4", "a6", "v2", "nix", "lost", "twice") + " [ " + e() + " ]"
	case 4:
		return pick(&g.d, "a1", "a4", "a6", "twice") + " [ " + e() + " & 3 ]"
	}
	return e() + " " + pick(&g.d, "+", "-", "*", "/", "%", "&", "|", "^", "<<", ">>") + " " + e()
}

func (g *grower) cond(deep int) string {
	if deep == 0 {
		return g.expr(g.d.roll(3)) + " " + pick(&g.d, "==", "!=", "<", "<=", ">", ">=") + " " + g.expr(g.d.roll(3))
	}
	c := func() string { return "[ " + g.cond(g.d.roll(deep)) + " ]" }
	return pick(&g.d, "not "+c(), c()+" and "+c(), c()+" or "+c())
}

// things are of each type, with numbers that are often at the ends.
func (g *grower) things() string {
	v := func() int {
		return pick(&g.d, 0, 1, 2, 3, -1, -2, 7, 127, 255, -32768, 2147483647, -2147483648, 4294967295)
	}
	return oneOfEach(v(), v(), v()) + fmt.Sprintf(" lost:u16[2] twice:i8=%d twice:u32[2]=%d,%d", v(), v(), v())
}

func (g *grower) env() Env {
	e := world(g.things(), g.things())
	e.T = 1 + g.d.roll(6)
	e.Result = into(e.T, g.d.roll(1<<20)-1<<19)
	switch g.d.roll(20) {
	case 0:
		e.Mem = nil
	case 1:
		e.Old = nil
	}
	return e
}

func TestValueAgainstASecondReckoning(t *testing.T) {
	g := &grower{d: 3}
	var seen [api.UbIndex + 1]int
	for range 400 {
		e := g.env()
		for range 100 {
			seen[checkSecond(t, g.expr(g.d.roll(6)), e)]++
		}
	}
	for ub, n := range seen {
		if n < 300 {
			t.Errorf("8.1: only %d expressions with %q", n, ubNames[ub])
		}
	}
}

func TestTestAgainstASecondReckoning(t *testing.T) {
	g := &grower{d: 4}
	seen := map[string]int{}
	for range 400 {
		e := g.env()
		for range 100 {
			src := g.cond(g.d.roll(5))
			l := mustCond(t, src)
			for at := range l {
				is, ub, where := Test(l, at, e)
				is2, ub2, where2 := secondTest(l, at, e)
				if is != is2 || ub != ub2 || where != where2 {
					t.Errorf("8.2: %s: node %d is %v, %d, %d, not %v, %d, %d", src, at, is, ub, where, is2, ub2, where2)
				}
				seen[fmt.Sprint(is, ub)]++
			}
		}
	}
	for _, s := range []string{"true 0", "false 0", "false 1", "false 2", "false 3", "false 4"} {
		if seen[s] < 300 {
			t.Errorf("8.2: only %d conditions that tell %s", seen[s], s)
		}
	}
}

// TestTypesAreThoseOfTheRules: of what has a type by layer 5 it is that one; of what has none it is I32.
func TestTypesAreThoseOfTheRules(t *testing.T) {
	g := &grower{d: 6}
	for range 20000 {
		e := world(oneOfEach(1, 2, 3), oneOfEach(0, 1, 2))
		e.Result, e.T = 1, 1+g.d.roll(6)
		// Here a name stands for a scalar and for an array.
		y := api.Layout{Vars: e.Binds, Arrs: e.Binds}
		l := mustExpr(t, g.expr(g.d.roll(6)))
		for at := range l {
			want := rules.Type(l, at, y, e.T)
			if want == 0 {
				want = api.I32
			}
			if _, ty, _, _ := Value(l, at, e); ty != want {
				t.Errorf("8.1: %v at %d is of type %d, not %d", l, at, ty, want)
			}
		}
	}
}
