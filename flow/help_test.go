package flow

import (
	"fmt"
	"slices"
	"strings"
	"testing"

	"calliper/api"
	"calliper/parse"
	"calliper/rules"
	"calliper/step"
)

var (
	typeNames  = [...]string{"none", "i8", "u8", "i16", "u16", "i32", "u32"}
	ubNames    = [...]string{"none", "over", "div", "shift", "index"}
	checkNames = [...]string{"none", "requires", "ensures", "assert", "invariant", "frame"}
	endNames   = [...]string{"none", "done", "fuel", "ub", "fail", "no run"}
)

// nameOf is how the tests write a number of a type, of an end, ..
func nameOf(names []string, n int) string {
	if n < 0 || n >= len(names) {
		return fmt.Sprint("number ", n)
	}
	return names[n]
}

// unmark takes out the marks `@a `, `@b `, .. of a source, and tells which of them stood where.
func unmark(src string) (string, map[int]string) {
	marks := map[int]string{}
	for {
		at := strings.IndexByte(src, '@')
		if at < 0 {
			return src, marks
		}
		marks[at] = src[at : at+2]
		src = src[:at] + src[at+3:]
	}
}

func placeText(at int, marks map[int]string) string {
	if mark, ok := marks[at]; ok {
		return mark
	}
	return fmt.Sprint("@", at)
}

func listText(l []int) string {
	return strings.Trim(strings.ReplaceAll(fmt.Sprint(l), " ", ","), "[]")
}

func blocksText(l []api.Block) string {
	s := ""
	for _, b := range l {
		s += " " + nameOf(typeNames[:], b.T) + ":" + listText(b.Vals)
	}
	return s
}

// eventText tells an event; a field that no sentence gives a value, but that has one, is told too.
func eventText(v api.Event, marks map[int]string) string {
	rest := v
	rest.Kind = 0
	s := fmt.Sprint("kind ", v.Kind)
	switch v.Kind {
	case api.EvCall:
		s, rest.Name, rest.Vals = strings.TrimRight("call "+v.Name+" "+listText(v.Vals), " "), "", nil
	case api.EvReturn:
		s, rest.Name, rest.N = fmt.Sprint("return ", v.Name, " ", v.N), "", 0
	case api.EvCheck:
		s, rest.At, rest.K, rest.N = fmt.Sprint(nameOf(checkNames[:], v.K), placeText(v.At, marks), " ", v.N), 0, 0, 0
	case api.EvInput:
		s, rest.N = fmt.Sprint("input ", v.N), 0
	case api.EvUb:
		s, rest.At, rest.N = nameOf(ubNames[:], v.N)+placeText(v.At, marks), 0, 0
	}
	if rest.At != 0 || rest.K != 0 || rest.Name != "" || rest.N != 0 || len(rest.Vals) > 0 {
		s += fmt.Sprintf(" and %+v", rest)
	}
	return s
}

// text tells a run: its events, its end; and Result and Globals, where it is done, or where they are there all the same.
func text(x api.Trace, marks map[int]string) string {
	var s strings.Builder
	for _, v := range x.Events {
		s.WriteString(eventText(v, marks) + "; ")
	}
	s.WriteString(nameOf(endNames[:], x.End))
	if x.End == api.EndDone || x.Result != 0 || len(x.Globals) > 0 {
		s.WriteString(fmt.Sprint(" ", x.Result, blocksText(x.Globals)))
	}
	return s.String()
}

// tree is a source's program, whatever its faults.
func tree(t *testing.T, src string) api.Program {
	t.Helper()
	p, e, at := parse.Program(src)
	if e != api.OK {
		t.Fatalf("Program(%.300q): error %d at %d", src, e, at)
	}
	return p
}

// mustProgram is a source's program, which has no faults but some of FWrite: of such a one a frame may be broken.
func mustProgram(t *testing.T, src string) api.Program {
	t.Helper()
	p := tree(t, src)
	other := func(f api.Fault) bool { return f.Code != api.FWrite }
	if l := rules.Faults(p); slices.ContainsFunc(l, other) {
		t.Fatalf("%.300q has faults: %v", src, l)
	}
	return p
}

// A row is a source with marks, what its function f is run with, and what the run tells.
type row struct {
	src    string
	args   []int
	inputs []int
	want   string
}

// wantRows holds rows against both machines, as there is fuel enough for both.
func wantRows(t *testing.T, promise string, rows []row) {
	t.Helper()
	for _, r := range rows {
		src, marks := unmark(r.src)
		p := mustProgram(t, src)
		if got := text(Run(p, "f", r.args, nil, r.inputs, api.MaxFuel), marks); got != r.want {
			t.Errorf("%s: %s\nof %v, input %v tells\n%s, want\n%s", promise, r.src, r.args, r.inputs, got, r.want)
		}
		if tree := text(step.Run(p, "f", r.args, nil, r.inputs, api.MaxFuel), marks); tree != r.want {
			t.Errorf("13.2: %s\nof %v, input %v tells of the tree\n%s, want\n%s", r.src, r.args, r.inputs, tree, r.want)
		}
	}
}

// dice are the same at each run of the tests.
type dice uint32

func (d *dice) roll(n int) int {
	*d = *d*1664525 + 1013904223
	return int(*d>>8) % n
}

func pick[T any](d *dice, l ...T) T { return l[d.roll(len(l))] }

func sameEvents(a, b []api.Event) bool {
	return slices.EqualFunc(a, b, func(v, w api.Event) bool {
		return slices.Equal(v.Vals, w.Vals) && v.Kind == w.Kind && v.At == w.At && v.K == w.K && v.Name == w.Name && v.N == w.N
	})
}

func same(a, b api.Trace) bool {
	return a.End == b.End && a.Result == b.Result && blocksText(a.Globals) == blocksText(b.Globals) && sameEvents(a.Events, b.Events)
}

// agree tells whether two machines' runs of one program, with whatever fuel, are as 13.2 says.
func agree(a, b api.Trace) bool {
	n := min(len(a.Events), len(b.Events))
	switch {
	case !sameEvents(a.Events[:n], b.Events[:n]):
		return false
	case a.End != api.EndFuel && b.End != api.EndFuel:
		return same(a, b)
	}
	// What ends otherwise than by fuel has no fewer events than what ends by it.
	return (a.End == api.EndFuel || len(a.Events) >= len(b.Events)) && (b.End == api.EndFuel || len(b.Events) >= len(a.Events))
}
