package flow

import (
	"fmt"
	"testing"

	"calliper/api"
)

func TestMaxCalls(t *testing.T) {
	const deep = "fn f ( n : i32 ) : i32 { let r : i32 = 0 ; if n > 1 { call r = f ( n - 1 ) ; } return r + 1 ; } "
	p := mustProgram(t, deep+"fn twice ( n : i32 ) : i32 { let r : i32 = 0 ; let s : i32 = 0 ; call r = f ( n ) ; call s = f ( n ) ; return r + s ; }")
	for _, c := range []struct {
		entry               string
		n, end, result, all int
	}{
		{"f", api.MaxCalls, api.EndDone, 200, 400}, {"f", api.MaxCalls + 1, api.EndFuel, 0, 200}, {"f", api.MaxCalls + 2, api.EndFuel, 0, 200}, {"f", 1, api.EndDone, 1, 2},
		// One more is open here; those that have returned are not.
		{"twice", api.MaxCalls - 1, api.EndDone, 398, 798}, {"twice", api.MaxCalls, api.EndFuel, 0, 200},
	} {
		x := Run(p, c.entry, []int{c.n}, nil, nil, api.MaxFuel)
		if x.End != c.end || x.Result != c.result || len(x.Events) != c.all {
			t.Errorf("13.1: %s of %d: end %d, result %d, %d events, want %d, %d, %d", c.entry, c.n, x.End, x.Result, len(x.Events), c.end, c.result, c.all)
		}
		for i := range min(c.n, api.MaxCalls-1) {
			if x.Events[i].Kind != api.EvCall {
				t.Errorf("13.1: %s of %d: event %d is %v", c.entry, c.n, i, x.Events[i])
			}
		}
	}
}

// TestMaxCallsIsAskedBehindTheArguments: and ahead of the call's event and its requires.
func TestMaxCallsIsAskedBehindTheArguments(t *testing.T) {
	src, marks := unmark("fn f ( n : i32 , d : i32 ) @a requires n > 0 ; { call f ( n - 1 , 10 @b / ( n - 1 ) ) ; }")
	p := mustProgram(t, src)
	for _, c := range []struct {
		n, last int
		end     string
	}{{199, 1, "div@b; ub"}, {200, 1, "div@b; ub"}, {201, 2, "fuel"}, {202, 3, "fuel"}} {
		want := fmt.Sprint("call f ", c.n, ",0; requires@a 1; ")
		for n := c.n - 1; n >= c.last; n-- {
			want += fmt.Sprint("call f ", n, ",", 10/n, "; requires@a 1; ")
		}
		if got := text(Run(p, "f", []int{c.n, 0}, nil, nil, api.MaxFuel), marks); got != want+c.end {
			t.Errorf("13.1: of %d: %s, want %s", c.n, got, want+c.end)
		}
	}
}
