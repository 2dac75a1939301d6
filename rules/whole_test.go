package rules

import (
	"fmt"
	"reflect"
	"strings"
	"testing"

	"calliper/api"
	"calliper/parse"
)

// A grower makes programs, some with faults, some without: names are few, so they are often the right ones.
type grower struct {
	d     dice
	wrong int // one name in so many is just any name
	vars  []string
	arrs  []string
	fresh int
	loops int
}

func (g *grower) some(l []string) string {
	if len(l) == 0 || g.d.roll(g.wrong) == 0 {
		return pick(&g.d, "g", "h", "x", "a", "n0", "n1", "n2", "n3", "nix", "f")
	}
	return pick(&g.d, l...)
}

func (g *grower) expr(deep int) string {
	if deep == 0 {
		return pick(&g.d, "1", "2u", g.some(g.vars))
	}
	e := func() string { return g.expr(g.d.roll(deep)) }
	return pick(&g.d, e()+" + "+e(), "( "+e()+" << "+e()+" )", "- "+e(), "u8 ( "+e()+" )", g.some(g.arrs)+" [ "+e()+" ]")
}

// claim is a condition whose indices are numbers.
func (g *grower) claim() string {
	return g.some(g.vars) + pick(&g.d, " < ", " == ") + g.some(g.arrs) + " [ " + pick(&g.d, "0", "1", "1", "1", "2") + " ]"
}

func (g *grower) block(deep int) string {
	vars, arrs := len(g.vars), len(g.arrs)
	s := "{ "
	for range g.d.roll(4) {
		s += g.stmt(deep)
	}
	g.vars, g.arrs = g.vars[:vars:vars], g.arrs[:arrs:arrs]
	return s + "} "
}

func (g *grower) stmt(deep int) string {
	switch g.d.roll(12) {
	case 0, 1:
		s := "let n" + fmt.Sprint(g.fresh) + " : u16 = " + g.expr(2) + " ; "
		g.vars = append(g.vars, "n"+fmt.Sprint(g.fresh))
		g.fresh++
		return s
	case 2:
		g.arrs = append(g.arrs, "n"+fmt.Sprint(g.fresh))
		g.fresh++
		return "let " + g.arrs[len(g.arrs)-1] + " : i8 [ 2 ] ; "
	case 3, 4:
		return g.some(g.vars) + " = " + g.expr(2) + " ; "
	case 5:
		return g.some(g.arrs) + " [ " + g.expr(1) + " ] = " + g.expr(1) + " ; "
	case 6:
		return "call " + pick(&g.d, g.some(g.vars)+" = ", "") + "f ( " + g.expr(1) + " , " + g.some(g.arrs) + " ) ; "
	case 7:
		return "assert " + g.claim() + " ; input " + g.some(g.vars) + " ; "
	case 8:
		if g.loops > 0 {
			return pick(&g.d, "break ; ", "continue ; ")
		}
		return pick(&g.d, "return 1 ; ", "return "+g.expr(1)+" ; ")
	}
	if deep == 0 {
		return ""
	}
	if g.d.roll(2) == 0 {
		return "if " + g.expr(1) + " < " + g.expr(1) + " " + g.block(deep-1) + "else " + g.block(deep-1)
	}
	s := "while " + g.expr(1) + " < 1 invariant " + g.claim() + " ; "
	if g.d.roll(3) == 0 {
		s += "assigns " + strings.Join(append(g.vars[:len(g.vars):len(g.vars)], g.arrs...), " , ") + " ; "
	}
	g.loops++
	s += g.block(deep - 1)
	g.loops--
	return s
}

func (g *grower) program() string {
	*g = grower{d: g.d, wrong: pick(&g.d, 10, 40, 1000), vars: []string{"g", "x"}, arrs: []string{"h", "a"}}
	s := "global g : i8 ; global h : i16 [ 2 ] ; fn f ( x : u8 , a : i8 [ 2 ] ) : i32 requires " + g.claim() + " ; ensures old ( " + g.some(g.vars) + " ) < result ; assigns g , h , a ; "
	return s + g.block(3)
}

// A use of a name: does it ask for an array?
type use struct {
	name  string
	array bool
}

// uses tells all names that are read or written, and each expression.
func uses(v reflect.Value, name func(use), expr func([]api.Expr)) {
	switch x := v.Interface().(type) {
	case []api.Expr:
		expr(x)
		return
	case api.Stmt:
		switch {
		case x.Kind == api.SElem:
			name(use{x.Name, true})
		case x.Kind == api.SSet, x.Kind == api.SInput, x.Kind == api.SCall && x.Has:
			name(use{x.Name, false})
		}
	}
	switch v.Kind() {
	case reflect.Slice:
		for i := range v.Len() {
			uses(v.Index(i), name, expr)
		}
	case reflect.Struct:
		for i := range v.NumField() {
			uses(v.Field(i), name, expr)
		}
	}
}

func inBinds(l []api.Bind, name string) bool {
	for _, b := range l {
		if b.Name == name && b.T >= api.I8 && b.T <= api.U32 {
			return true
		}
	}
	return false
}

func TestNamesHaveTypesWhereThereAreNoFaults(t *testing.T) {
	g := &grower{d: 5}
	right, wrong := 0, 0
	for range 6000 {
		src := g.program()
		p, e, _ := parse.Program(src)
		if e != api.OK {
			t.Fatalf("%s: error %d", src, e)
		}
		if len(Faults(p)) > 0 {
			wrong++
			continue
		}
		right++
		f := p.Funcs[0]
		y := Layout(p, f)
		uses(reflect.ValueOf(f), func(u use) {
			if u.array && !inBinds(y.Arrs, u.name) || !u.array && !inBinds(y.Vars, u.name) {
				t.Errorf("5.7: %s: no type of %v", src, u)
			}
		}, func(l []api.Expr) {
			for at, n := range l {
				// An array that is handed to a call stands there by its name alone.
				if len(l) == 1 && n.Kind == api.EVar && inBinds(y.Arrs, n.Name) {
					continue
				}
				if ty := Type(l, at, y, f.T); ty < api.I8 || ty > api.U32 {
					t.Errorf("5.7: %s: type %d of %v", src, ty, n)
				}
			}
		})
	}
	if right < 500 || wrong < 500 {
		t.Errorf("5.7: %d programs without faults, %d with some", right, wrong)
	}
}

// A name that there is not, in place of any that is read or written, is a fault.
func TestEachNameIsLookedAt(t *testing.T) {
	g := &grower{d: 9}
	turned := 0
	for turned < 400 {
		p := mustProgram(t, g.program())
		if len(Faults(p)) > 0 {
			continue
		}
		for n := 0; ; n++ {
			q := clone(p)
			if !turnName(reflect.ValueOf(&q.Funcs[0]).Elem(), n) {
				break
			}
			turned++
			if l := Faults(q); !strings.Contains(faultsText(l, nil), "none(zz)") {
				t.Fatalf("5.7: no fault of zz in %+v: %v", q, l)
			}
		}
	}
}

// turnName gives node or statement number n, of those that have a name, another one; false: there are not so many.
func turnName(v reflect.Value, n int) bool {
	done := false
	var walk func(v reflect.Value)
	named := func(s string, set func(string)) {
		if s == "" || done {
			return
		}
		if n == 0 {
			set("zz")
			done = true
		}
		n--
	}
	walk = func(v reflect.Value) {
		switch x := v.Addr().Interface().(type) {
		case *api.Expr:
			named(x.Name, func(s string) { x.Name = s })
			return
		case *api.Stmt:
			if x.Kind != api.SLet && x.Kind != api.SArray {
				named(x.Name, func(s string) { x.Name = s })
				named(x.To, func(s string) { x.To = s })
			}
		}
		switch v.Kind() {
		case reflect.Slice:
			for i := range v.Len() {
				walk(v.Index(i))
			}
		case reflect.Struct:
			for i := range v.NumField() {
				walk(v.Field(i))
			}
		}
	}
	walk(v)
	return done
}
