package lower

import (
	"fmt"
	"strings"
	"testing"

	"calliper/api"
	"calliper/parse"
	"calliper/show"
)

var relSigns = [...]string{"no rel", "==", "!=", "<", "<=", ">", ">="}

// unmark takes out the marks `@a `, `@b `, .. of a source, and tells which of them stood where.
func unmark(src string) (string, map[int]string) {
	marks := map[int]string{}
	for {
		at := strings.IndexByte(src, '@')
		if at < 0 {
			return src, marks
		}
		marks[at] = src[at : at+2]
		src = src[:at] + src[at+3:]
	}
}

func placeText(at int, marks map[int]string) string {
	if mark, ok := marks[at]; ok {
		return mark
	}
	return fmt.Sprint("@", at)
}

// goesTo is how the tests write a place that an instruction goes on to.
func goesTo(place int) string {
	if place == -1 {
		return "end"
	}
	return fmt.Sprint(place)
}

func condText(l []api.Cond) string {
	var kids []string
	for _, n := range l {
		switch n.Kind {
		case api.CRel:
			kids = append(kids, show.Expr(n.X)+relSigns[n.Rel]+show.Expr(n.Y))
		case api.CNot:
			kids = append(kids, "not "+kids[n.A])
		case api.CAnd:
			kids = append(kids, "["+kids[n.A]+" and "+kids[n.B]+"]")
		default:
			kids = append(kids, "["+kids[n.A]+" or "+kids[n.B]+"]")
		}
	}
	if len(kids) == 0 {
		return ""
	}
	return kids[len(kids)-1]
}

func kindOf(s api.Stmt) string {
	return [...]string{"none", "let", "array", "set", "elem", "call", "if", "while", "break", "continue", "return", "assert", "input"}[s.Kind]
}

// instrText tells an instruction; a field that no sentence gives a value, but that has one, is told too.
func instrText(i api.Instr, marks map[int]string) string {
	s := fmt.Sprint("kind ", i.Kind)
	rest := i
	rest.Kind, rest.At, rest.Next, rest.Else = 0, 0, 0, 0
	ways := goesTo(i.Next)
	switch i.Kind {
	case api.IDo:
		s, rest.S = kindOf(i.S)+placeText(i.At, marks), api.Stmt{}
		if i.S.At != i.At {
			s += fmt.Sprint(" of ", placeText(i.S.At, marks))
		}
	case api.IIf:
		s = "if" + placeText(i.At, marks) + " " + show.Expr(i.X) + relSigns[i.Rel] + show.Expr(i.Y)
		ways += "|" + goesTo(i.Else)
		rest.Rel, rest.X, rest.Y = 0, nil, nil
	case api.IInv:
		s, rest.Clause = "inv"+placeText(i.At, marks)+" "+condText(i.Clause.C), api.Clause{}
		if i.Clause.At != i.At {
			s += fmt.Sprint(" of ", placeText(i.Clause.At, marks))
		}
	case api.IHead:
		s = "head" + placeText(i.At, marks)
	}
	if i.Kind != api.IIf && i.Else != -1 {
		s += fmt.Sprint(" else ", i.Else)
	}
	if more := fmt.Sprintf("%+v", rest); more != fmt.Sprintf("%+v", api.Instr{}) {
		s += " and " + more
	}
	return s + " > " + ways
}

// text tells instructions in order, and where they begin.
func text(l []api.Instr, entry int, marks map[int]string) string {
	s := ""
	for at, i := range l {
		s += fmt.Sprint(at, " ", instrText(i, marks), "; ")
	}
	return s + "from " + goesTo(entry)
}

// mustFunc is a source's function, whatever its faults.
func mustFunc(t *testing.T, src string) api.Func {
	t.Helper()
	p, e, at := parse.Program(src)
	if e != api.OK || len(p.Funcs) != 1 {
		t.Fatalf("Program(%.300q): error %d at %d, %d functions", src, e, at, len(p.Funcs))
	}
	return p.Funcs[0]
}

// A row is a body with marks, and its instructions.
type row struct{ body, want string }

func wantRows(t *testing.T, rows []row) {
	t.Helper()
	for _, r := range rows {
		src, marks := unmark("fn f ( ) { " + r.body + " }")
		l, entry := Lower(mustFunc(t, src))
		if got := text(l, entry, marks); got != r.want {
			t.Errorf("11.1: %s\ntells %s,\nwant  %s", r.body, got, r.want)
		}
	}
}

// alike tells whether two things are one; a nil list and an empty one are one.
func alike(a, b any) bool {
	return fmt.Sprintf("%+v", a) == fmt.Sprintf("%+v", b)
}

// dice are the same at each run of the tests.
type dice uint32

func (d *dice) roll(n int) int {
	*d = *d*1664525 + 1013904223
	return int(*d>>8) % n
}

func pick[T any](d *dice, l ...T) T { return l[d.roll(len(l))] }
