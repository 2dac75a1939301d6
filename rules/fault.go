package rules

import (
	"errors"
	"strconv"

	"calliper/api"
)

// broken is a rule that is not kept, by its fault's code. Who finds it does not know where it stands.
type broken int

func (b broken) Error() string {
	return "fault " + strconv.Itoa(int(b))
}

// placed is what is wrong with something that has a name, at a place.
type placed struct {
	at   int
	name string
	err  error
}

func (p placed) Error() string {
	return p.name + " at " + strconv.Itoa(p.at) + ": " + p.err.Error()
}

func (p placed) Unwrap() error {
	return p.err
}

// tell notes what is wrong, if something is.
func (k *checker) tell(at int, name string, err error) {
	if err == nil {
		return
	}
	if f, ok := found(placed{at, name, err}); ok {
		k.faults = append(k.faults, f)
	}
}

// found is the fault that an error has within it.
func found(err error) (f api.Fault, ok bool) {
	var b broken
	var p placed
	if !errors.As(err, &p) || !errors.As(err, &b) {
		return api.Fault{}, false
	}
	return api.Fault{At: p.at, Code: int(b), Name: p.name}, true
}
