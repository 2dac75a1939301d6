package eval

import (
	"reflect"
	"slices"
	"testing"

	"calliper/api"
	"calliper/memory"
)

// A scatterer makes worlds in which the same names have the same values, and all else is another each time: where blocks stand, in which order, what stands between them.
type scatterer struct{ d dice }

func (s *scatterer) world(has, had []thing) Env {
	var e Env
	e.Mem, e.Binds = s.put(has)
	e.Old, e.Olds = s.put(had)
	return e
}

func (s *scatterer) put(l []thing) (*memory.Mem, []api.Bind) {
	m := memory.New()
	var binds, hidden []api.Bind
	for _, i := range s.order(len(l)) {
		s.noise(m)
		binds = append(binds, put(m, l[i]))
		if s.d.roll(2) == 0 {
			// One of the same name, with anything: it is not the last.
			hidden = append(hidden, api.Bind{Name: l[i].name, T: 1 + s.d.roll(6), Size: s.d.roll(5), Id: s.d.roll(20) - 3})
		}
	}
	hidden = append(hidden, api.Bind{Name: "other", T: api.U8, Id: 0})
	s.noise(m)
	return m, append(hidden, binds...)
}

// noise is blocks that no name of the expressions has.
func (s *scatterer) noise(m *memory.Mem) {
	for range s.d.roll(4) {
		m.Set(m.Add(1+s.d.roll(6), s.d.roll(6)), 0, s.d.roll(100000))
	}
}

func (s *scatterer) order(n int) []int {
	var l []int
	for i := range n {
		l = slices.Insert(l, s.d.roll(i+1), i)
	}
	return l
}

func TestItIsAFunctionOfWhatTheNamesHave(t *testing.T) {
	g, s := &grower{d: 11}, &scatterer{d: 12}
	for range 300 {
		vals := func() int { return pick(&g.d, 0, 1, 2, 3, -1, -32768, 2147483647, -2147483648, 4294967295) }
		has, had := things(oneOfEach(vals(), vals(), vals())), things(oneOfEach(vals(), vals(), vals()))
		var worlds []Env
		for range 4 {
			e := s.world(has, had)
			e.Result, e.T = 7, api.U16
			worlds = append(worlds, e)
		}
		for range 60 {
			l, c := mustExpr(t, g.expr(g.d.roll(5))), mustCond(t, g.cond(g.d.roll(4)))
			v, ty, ub, where := Value(l, len(l)-1, worlds[0])
			is, ubc, wherec := Test(c, len(c)-1, worlds[0])
			for _, e := range worlds {
				if v2, ty2, ub2, where2 := Value(l, len(l)-1, e); v != v2 || ty != ty2 || ub != ub2 || where != where2 {
					t.Fatalf("8.3: %v is %s at %d and %s at %d", l, answerText(v, ty, ub), where, answerText(v2, ty2, ub2), where2)
				}
				if is2, ub2, where2 := Test(c, len(c)-1, e); is != is2 || ubc != ub2 || wherec != where2 {
					t.Fatalf("8.3: %v is %v, %d, %d and %v, %d, %d", c, is, ubc, wherec, is2, ub2, where2)
				}
			}
		}
	}
}

// TestOneMemoryForBoth: what was and what is may stand in one memory, on the same blocks or on others.
func TestOneMemoryForBoth(t *testing.T) {
	m := memory.New()
	x, y := put(m, thing{name: "x", t: api.I32, vals: []int{5}}), put(m, thing{name: "x", t: api.I32, vals: []int{8}})
	wantValues(t, Env{Mem: m, Binds: []api.Bind{x}, Old: m, Olds: []api.Bind{y}}, []row{{"x - old ( x )", "-3 i32"}})
	wantValues(t, Env{Mem: m, Binds: []api.Bind{x}, Old: m, Olds: []api.Bind{x}}, []row{{"x - old ( x )", "0 i32"}})
}

// TestTwoNamesOfOneBlock: what one has the other has.
func TestTwoNamesOfOneBlock(t *testing.T) {
	m := memory.New()
	x := put(m, thing{name: "x", t: api.I16, size: 2, vals: []int{5, 6}})
	y := x
	y.Name = "y"
	e := Env{Mem: m, Binds: []api.Bind{x, y}}
	wantValues(t, e, []row{{"x [ 1 ] * 10 + y [ 0 ]", "65 i32"}})
	m.Set(x.Id, 0, -1)
	wantValues(t, e, []row{{"x [ 1 ] * 10 + y [ 0 ]", "59 i32"}})
}

// blocks are all that a memory has.
func blocks(m *memory.Mem) []api.Block {
	var l []api.Block
	for id := range m.Len() {
		b, _ := m.Block(id)
		l = append(l, b)
	}
	return l
}

func cloneConds(l []api.Cond) []api.Cond {
	l = slices.Clone(l)
	for i := range l {
		l[i].X, l[i].Y = slices.Clone(l[i].X), slices.Clone(l[i].Y)
	}
	return l
}

func TestWhatIsHandedInStays(t *testing.T) {
	g := &grower{d: 21}
	for range 200 {
		e := g.env()
		was := [...]any{blocks(e.Mem), slices.Clone(e.Binds), blocks(e.Old), slices.Clone(e.Olds)}
		for range 50 {
			l, c := mustExpr(t, g.expr(g.d.roll(6))), mustCond(t, g.cond(g.d.roll(5)))
			l2, c2 := slices.Clone(l), cloneConds(c)
			if first, again := answerOf(l, e), answerOf(l, e); first != again {
				t.Errorf("8.3: %v tells %v, then %v", l, first, again)
			}
			Test(c, len(c)-1, e)
			if !reflect.DeepEqual(l, l2) || !reflect.DeepEqual(c, c2) {
				t.Fatalf("R3: a list was changed: %v, %v", l, c)
			}
		}
		if now := [...]any{blocks(e.Mem), e.Binds, blocks(e.Old), e.Olds}; !reflect.DeepEqual(was, now) {
			t.Fatalf("R3: an Env was changed: %v, now %v", was, now)
		}
	}
}

func answerOf(l []api.Expr, e Env) [4]int {
	v, ty, ub, where := Value(l, len(l)-1, e)
	return [...]int{v, ty, ub, where}
}

// TestNothingIsKept: an answer goes by what the memory has at the time of the call.
func TestNothingIsKept(t *testing.T) {
	e := world("x:i32=5", "x:i32=6")
	l := mustExpr(t, "x * 100 + old ( x )")
	for _, v := range []int{5, 6, -7} {
		e.Mem.Set(0, 0, v)
		e.Old.Set(0, 0, v+1)
		wantNode(t, l, len(l)-1, e, answerText(v*101+1, api.I32, 0), 0)
	}
}
