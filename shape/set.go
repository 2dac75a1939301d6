package shape

import "math/bits"

const (
	// most is how many nodes a graph may have.
	most = 2000
	// part is how many nodes a part of a set has bits for.
	part  = 64
	parts = (most + part - 1) / part
)

// A set of nodes has a bit for each.
type set [parts]uint64

func (s *set) add(at int) {
	s[at/part] |= 1 << (at % part)
}

func (s *set) drop(at int) {
	s[at/part] &^= 1 << (at % part)
}

// join adds what is in another set.
func (s *set) join(o *set) {
	for i := range s {
		s[i] |= o[i]
	}
}

// meet is what is in both.
func (s set) meet(o set) set {
	for i := range s {
		s[i] &= o[i]
	}
	return s
}

// less is what is in s, but not in o.
func (s set) less(o set) set {
	for i := range s {
		s[i] &^= o[i]
	}
	return s
}

func (s set) count() int {
	n := 0
	for _, bit := range s {
		n += bits.OnesCount64(bit)
	}
	return n
}

// all goes through the nodes of a set, rising.
func (s set) all(yield func(int) bool) {
	for i, left := range s {
		for ; left != 0; left &= left - 1 {
			if !yield(i*part + bits.TrailingZeros64(left)) {
				return
			}
		}
	}
}
