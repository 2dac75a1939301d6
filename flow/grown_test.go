package flow

import (
	"fmt"
	"slices"
	"strings"
	"testing"

	"calliper/api"
	"calliper/parse"
	"calliper/rules"
	"calliper/step"
)

// A thing is a name that a grown program may use.
type thing struct {
	name  string
	t     int
	size  int
	local bool
}

// A head is what calls may know of a function.
type head struct {
	name   string
	t      int
	params []thing
}

// A grower makes programs without faults but some of FWrite.
type grower struct {
	d       dice
	wild    int // one claim in so many, and one number in so many, is just any one
	globals []thing
	heads   []head
	here    []thing
	inner   int // loops that are open
	fresh   int
	own     head
}

func (g *grower) one(l []thing) []thing {
	return slices.DeleteFunc(slices.Clone(l), func(x thing) bool { return x.size > 0 })
}

func (g *grower) many(l []thing) []thing {
	return slices.DeleteFunc(slices.Clone(l), func(x thing) bool { return x.size == 0 })
}

func (g *grower) name(prefix string) string {
	g.fresh++
	return fmt.Sprint(prefix, g.fresh)
}

func (g *grower) number() string {
	if g.d.roll(g.wild) == 0 {
		return pick(&g.d, "127", "128", "255", "256", "300", "32768", "65535", "2147483647", "4294967295u", "2147483648u", "31", "32")
	}
	return pick(&g.d, "0", "1", "1", "2", "3", "4", "1u", "5u")
}

// leaf is a number or a scalar; in a claim an index is a number.
func (g *grower) leaf(from []thing, claim bool) string {
	l := g.many(from)
	if len(l) > 0 && g.d.roll(4) == 0 {
		a := pick(&g.d, l...)
		index := fmt.Sprint(g.d.roll(a.size))
		if !claim && g.d.roll(g.wild) == 0 {
			index = g.expr(from, 1)
		}
		return a.name + " [ " + index + " ]"
	}
	if s := g.one(from); len(s) > 0 && g.d.roll(4) > 0 {
		return pick(&g.d, s...).name
	}
	return g.number()
}

func (g *grower) expr(from []thing, deep int) string {
	return g.grow(deep, func() string { return g.leaf(from, false) })
}

func (g *grower) grow(deep int, leaf func() string) string {
	if deep == 0 {
		return leaf()
	}
	e := func() string { return g.grow(g.d.roll(deep), leaf) }
	switch g.d.roll(10) {
	case 0:
		return pick(&g.d, "- ", "~ ") + "( " + e() + " )"
	case 1, 2:
		return typeNames[1+g.d.roll(6)] + " ( " + e() + " )"
	case 3:
		return "( " + e() + pick(&g.d, " / ", " % ", " << ", " >> ", " * ") + e() + " )"
	}
	return "( " + e() + pick(&g.d, " + ", " - ", " + ", " - ", " & ", " | ", " ^ ") + e() + " )"
}

// claim is a condition that mostly holds.
func (g *grower) claim(leaf func() string) string {
	rel := pick(&g.d, " == ", " != ", " < ", " <= ", " > ", " >= ")
	x, y := g.grow(g.d.roll(3), leaf), g.grow(g.d.roll(2), leaf)
	any := x + rel + y
	if g.d.roll(g.wild) == 0 {
		return pick(&g.d, any, "not "+any, any+" and "+any, any+" or "+leaf()+rel+leaf())
	}
	a := leaf()
	return pick(&g.d, a+" == "+a, a+" <= "+a+" or "+any, "not [ "+a+" != "+a+" ]", a+" < "+a+" + 1 or "+a+" == "+a)
}

func (g *grower) claims(word string, leaf func() string) string {
	s := ""
	for range g.d.roll(3) {
		s += word + " " + g.claim(leaf) + " ; "
	}
	return s
}

func (g *grower) plainLeaf(from []thing) func() string {
	return func() string { return g.leaf(from, true) }
}

func (g *grower) block(deep int) string {
	n := len(g.here)
	s := "{ "
	for range 1 + g.d.roll(4) {
		s += g.stmt(deep)
	}
	g.here = g.here[:n:n]
	return s + "} "
}

func (g *grower) stmt(deep int) string {
	here := g.here
	switch g.d.roll(16) {
	case 0, 1:
		x := thing{name: g.name("v"), t: 1 + g.d.roll(6), local: true}
		g.here = append(here, x)
		return "let " + x.name + " : " + typeNames[x.t] + " = " + g.expr(here, 2) + " ; "
	case 2, 3:
		x := thing{g.name("w"), pick(&g.d, api.I8, api.U32), 1 + g.d.roll(2), true}
		g.here = append(here, x)
		return "let " + x.name + " : " + typeNames[x.t] + " [ " + fmt.Sprint(x.size) + " ] ; "
	case 4, 5, 6:
		if l := g.one(here); len(l) > 0 {
			return pick(&g.d, l...).name + " = " + g.expr(here, 2) + " ; "
		}
	case 7, 8:
		if l := g.many(here); len(l) > 0 {
			return pick(&g.d, l...).name + " [ " + pick(&g.d, "0", "0", g.leaf(here, false)) + " ] = " + g.expr(here, 2) + " ; "
		}
	case 9:
		return "assert " + g.claim(g.plainLeaf(here)) + " ; "
	case 10:
		if l := g.one(here); len(l) > 0 {
			return "input " + pick(&g.d, l...).name + " ; "
		}
	case 11, 12:
		return g.call()
	case 13:
		if g.inner > 0 {
			return "if " + g.claim(g.plainLeaf(here)) + " { " + pick(&g.d, "break ; ", "continue ; ", g.ret()) + "} "
		}
		return g.ret()
	}
	if deep == 0 {
		return ""
	}
	if g.d.roll(2) == 0 {
		return "if " + g.cond(g.d.roll(4)) + " " + g.block(deep-1) + pick(&g.d, "", "else "+g.block(deep-1))
	}
	return g.loop(deep)
}

// cond is a condition of relations in nots, ands and ors, which holds or not.
func (g *grower) cond(deep int) string {
	if deep == 0 {
		return g.expr(g.here, 1) + pick(&g.d, " < ", " == ", " != ", " <= ", " > ", " >= ") + g.expr(g.here, 1)
	}
	a := g.cond(g.d.roll(deep))
	switch g.d.roll(4) {
	case 0:
		return "not [ " + a + " ]"
	case 1:
		return "[ " + a + " ] and " + g.cond(g.d.roll(deep))
	case 2:
		return "[ " + a + " or " + g.cond(g.d.roll(deep)) + " ]"
	}
	return "not " + g.cond(0) + " and " + g.cond(0) + " or " + a
}

// loop has a counter, but for some.
func (g *grower) loop(deep int) string {
	i := thing{name: g.name("n"), t: api.I32, local: true}
	g.here = append(g.here, i)
	s := "let " + i.name + " : i32 = 0 ; while " + i.name + " < " + fmt.Sprint(1+g.d.roll(4)) + " "
	if g.d.roll(3) == 0 {
		s += "and [ " + g.cond(g.d.roll(3)) + " ] "
	}
	s += g.claims("invariant", g.plainLeaf(g.here))
	g.inner++
	body := g.block(deep - 1)
	g.inner--
	return s + strings.Replace(body, "{ ", "{ "+i.name+" = "+i.name+" + 1 ; ", 1)
}

func (g *grower) ret() string {
	if g.own.t == 0 {
		return "return ; "
	}
	return "return " + g.expr(g.here, 2) + " ; "
}

// call calls any function, its own one too, if there are arrays that fit.
func (g *grower) call() string {
	f := pick(&g.d, g.heads...)
	var args []string
	free := slices.DeleteFunc(g.many(g.here), func(x thing) bool { return !x.local })
	for _, q := range f.params {
		if q.size == 0 {
			args = append(args, g.expr(g.here, 1))
			continue
		}
		i := slices.IndexFunc(free, func(x thing) bool { return x.t == q.t && x.size == q.size })
		if i < 0 {
			return ""
		}
		args = append(args, free[i].name)
		free = slices.Delete(free, i, i+1)
	}
	to := ""
	if l := g.one(g.here); f.t != 0 && len(l) > 0 && g.d.roll(3) > 0 {
		to = pick(&g.d, l...).name + " = "
	}
	return "call " + to + f.name + " ( " + strings.Join(args, " , ") + " ) ; "
}

func (g *grower) things(prefix string, n int) []thing {
	var l []thing
	for range n {
		x := thing{name: g.name(prefix), t: 1 + g.d.roll(6), local: prefix == "p"}
		if g.d.roll(3) == 0 {
			x.t, x.size = pick(&g.d, api.I8, api.U32), 1+g.d.roll(2)
		}
		l = append(l, x)
	}
	return l
}

func declared(x thing) string {
	s := x.name + " : " + typeNames[x.t]
	if x.size > 0 {
		s += fmt.Sprint(" [ ", x.size, " ]")
	}
	return s
}

// assigns tells all that may be changed, or, now and then, leaves some out: then a frame may be broken.
func (g *grower) assigns(f head) string {
	s := ""
	for _, x := range append(slices.Clone(g.globals), g.many(f.params)...) {
		if g.d.roll(g.wild) > 0 {
			s += "assigns " + x.name + " ; "
		}
	}
	return s
}

func (g *grower) function(f head) string {
	var params []string
	for _, q := range f.params {
		params = append(params, declared(q))
	}
	s := "fn " + f.name + " ( " + strings.Join(params, " , ") + " ) "
	if f.t != 0 {
		s += ": " + typeNames[f.t] + " "
	}
	g.own, g.here = f, append(slices.Clone(g.globals), f.params...)
	seen := g.here
	ensured := func() string {
		leaf := g.leaf(seen, true)
		if f.t != 0 && g.d.roll(5) == 0 {
			return "result"
		}
		if g.d.roll(3) == 0 {
			return "old ( " + leaf + " )"
		}
		return leaf
	}
	return s + g.claims("requires", g.plainLeaf(seen)) + g.claims("ensures", ensured) + g.assigns(f) + g.block(3)
}

func (g *grower) program() string {
	*g = grower{d: g.d, wild: pick(&g.d, 4, 10, 30, 100)}
	g.globals = g.things("s", g.d.roll(4))
	s := ""
	for _, x := range g.globals {
		s += "global " + declared(x)
		if x.size == 0 && g.d.roll(2) == 0 {
			s += " = " + fmt.Sprint(g.d.roll(100))
		}
		s += " ; "
	}
	for i := range 1 + g.d.roll(3) {
		g.heads = append(g.heads, head{fmt.Sprint("f", i), g.d.roll(7), g.things("p", g.d.roll(3))})
	}
	for _, f := range g.heads {
		s += g.function(f)
	}
	return s
}

// grown is a program that has no faults but of FWrite.
func (g *grower) grown(t *testing.T) (string, api.Program) {
	for {
		src := g.program()
		p, e, at := parse.Program(src)
		if e == api.ErrDeep || e == api.ErrLong {
			continue
		}
		if e != api.OK {
			t.Fatalf("%s: error %d at %d", src, e, at)
		}
		other := func(f api.Fault) bool { return f.Code != api.FWrite }
		if !slices.ContainsFunc(rules.Faults(p), other) {
			return src, p
		}
	}
}

// start is what a run may begin with.
func (g *grower) start(p api.Program, f api.Func) (args []int, globals []api.Block, inputs []int) {
	some := func() int { return pick(&g.d, 0, 1, 2, 3, -1, 100, 127, 128, 255, 1<<31-1, 1<<32-1) }
	for range f.Params {
		args = append(args, some())
	}
	for range g.d.roll(5) {
		inputs = append(inputs, some())
	}
	if g.d.roll(2) == 0 {
		for _, x := range p.Globals {
			b := newBox(x.T, x.Size)
			for at := range b.vals {
				b.put(at, some())
			}
			globals = append(globals, api.Block{T: b.t, Vals: b.vals})
		}
	}
	return args, globals, inputs
}

// mayBegin tells whether a run may begin with a function.
func mayBegin(f api.Func) bool {
	return !slices.ContainsFunc(f.Params, func(q api.Param) bool { return q.Size > 0 })
}

func TestGrownProgramsAgainstASecondRun(t *testing.T) {
	g := &grower{d: 11}
	var seen, checks [6]int
	for range 2500 {
		src, p := g.grown(t)
		for _, f := range slices.DeleteFunc(slices.Clone(p.Funcs), func(f api.Func) bool { return !mayBegin(f) }) {
			for range 3 {
				args, globals, inputs := g.start(p, f)
				fuel := pick(&g.d, g.d.roll(10), g.d.roll(60), 300, 1000)
				x, want := Run(p, f.Name, args, globals, inputs, fuel), secondRun(p, f.Name, args, globals, inputs, fuel)
				if !same(x, want) {
					t.Fatalf("13.1: %s\n%s of %v, globals %v, inputs %v, fuel %d tells\n%s, want\n%s", src, f.Name, args, globals, inputs, fuel, text(x, nil), text(want, nil))
				}
				seen[x.End]++
				for _, v := range x.Events {
					if v.Kind == api.EvCheck && v.N == 0 {
						checks[v.K]++
					}
				}
			}
		}
	}
	for end := api.EndDone; end <= api.EndFail; end++ {
		if seen[end] < 100 {
			t.Errorf("13.1: %d runs end %s", seen[end], endNames[end])
		}
	}
	for k := api.KRequires; k <= api.KFrame; k++ {
		if checks[k] < 30 {
			t.Errorf("13.1: %d runs fail by %s", checks[k], checkNames[k])
		}
	}
}

// TestGrownProgramsAgainstTheTree: at many fuels of both.
func TestGrownProgramsAgainstTheTree(t *testing.T) {
	g := &grower{d: 12}
	var both, one [6]int
	for range 1500 {
		src, p := g.grown(t)
		for _, f := range slices.DeleteFunc(slices.Clone(p.Funcs), func(f api.Func) bool { return !mayBegin(f) }) {
			args, globals, inputs := g.start(p, f)
			fuels := []int{0, 1, g.d.roll(10), g.d.roll(60), 300, 2000}
			var trees []api.Trace
			for _, fuel := range fuels {
				trees = append(trees, step.Run(p, f.Name, args, globals, inputs, fuel))
			}
			for _, fuel := range fuels {
				x := Run(p, f.Name, args, globals, inputs, fuel)
				for i, tree := range trees {
					if !agree(x, tree) {
						t.Fatalf("13.2: %s\n%s of %v, globals %v, inputs %v, fuel %d tells\n%s, of the tree, fuel %d\n%s", src, f.Name, args, globals, inputs, fuel, text(x, nil), fuels[i], text(tree, nil))
					}
					if x.End == tree.End {
						both[x.End]++
					} else {
						one[x.End]++
						one[tree.End]++
					}
				}
			}
		}
	}
	for end := api.EndDone; end <= api.EndFail; end++ {
		if both[end] < 1000 || one[end] < 100 {
			t.Errorf("13.2: both end %s %d times, one alone %d times", endNames[end], both[end], one[end])
		}
	}
}

// TestGrownProgramsWithMoreFuel: what less fuel tells is the beginning of what more tells.
func TestGrownProgramsWithMoreFuel(t *testing.T) {
	g := &grower{d: 13}
	for range 300 {
		src, p := g.grown(t)
		f := p.Funcs[0]
		args, globals, inputs := g.start(p, f)
		all := Run(p, f.Name, args, globals, inputs, 100)
		if all.End == api.EndNone {
			continue
		}
		events := 0
		for fuel := range 101 {
			x := Run(p, f.Name, args, globals, inputs, fuel)
			if len(x.Events) < events || !agree(x, all) {
				t.Fatalf("13.1: %s\nof %v, fuel %d tells\n%s, with more\n%s", src, args, fuel, text(x, nil), text(all, nil))
			}
			events = len(x.Events)
		}
	}
}
