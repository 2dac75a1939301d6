package rules

import (
	"slices"

	"calliper/api"
	"calliper/typ"
)

// Where things come from.
const (
	fromGlobal = iota
	fromParam
	fromLet
)

// thing is what a name stands for. That it is an array is told apart from its size: a `let` may have the wrong size 0.
type thing struct {
	name  string
	t     int
	size  int
	array bool
	from  int
	loops int // that were open where it was made
}

// shared tells whether a caller sees what is written into a thing.
func (x thing) shared() bool {
	return x.from == fromGlobal || x.from == fromParam && x.array
}

// stand lets a thing stand from here on.
func (k *checker) stand(x thing) {
	x.loops = len(k.loops)
	k.things = append(k.things, x)
}

// leave forgets all things but the first n.
func (k *checker) leave(n int) {
	k.things = k.things[:n]
}

// find is what a name stands for here. A name that is there twice stands for the thing made last.
func (k *checker) find(name string) (thing, bool) {
	return last(k.things, name)
}

func last(l []thing, name string) (thing, bool) {
	for _, x := range slices.Backward(l) {
		if x.name == name {
			return x, true
		}
	}
	return thing{}, false
}

// callee is the function that a name calls: the first one of that name.
func (k *checker) callee(name string) (api.Func, bool) {
	i, ok := k.funcs[name]
	if !ok {
		return api.Func{}, false
	}
	return k.p.Funcs[i], true
}

// unused: the name is nobody's that may stand here.
func (k *checker) unused(name string) error {
	if _, ok := k.find(name); ok {
		return broken(api.FTwice)
	}
	return nil
}

// there: the name may stand here.
func (k *checker) there(name string) error {
	if _, ok := k.find(name); !ok {
		return broken(api.FNone)
	}
	return nil
}

// scalar: the name is a scalar's.
func (k *checker) scalar(name string) error {
	if x, ok := k.find(name); ok && x.array {
		return broken(api.FKind)
	}
	return k.there(name)
}

// array: the name is an array's.
func (k *checker) array(name string) error {
	if x, ok := k.find(name); ok && !x.array {
		return broken(api.FKind)
	}
	return k.there(name)
}

// assignable: a function may say that it assigns what has this name.
func (k *checker) assignable(name string) error {
	if slices.ContainsFunc(k.things, func(x thing) bool { return x.name == name && x.shared() }) {
		return nil
	}
	return broken(api.FNone)
}

// size: an array may have this size.
func size(n int) error {
	if n < 1 || n > api.MaxSize {
		return broken(api.FSize)
	}
	return nil
}

// sizeIfAny: likewise, of something that is a scalar where it is 0.
func sizeIfAny(n int) error {
	if n == 0 {
		return nil
	}
	return size(n)
}

// start: a global may begin with its Init.
func start(g api.Global) error {
	if g.Size == 0 && typ.In(g.T, g.Init) || g.Size != 0 && g.Init == 0 {
		return nil
	}
	return broken(api.FInit)
}
