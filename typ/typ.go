// Package typ: types of integers; see DOC.md, chapter 1.
package typ

import "calliper/api"

// Min is the least number of a type.
func Min(t int) int {
	if !signed(t) {
		return 0
	}
	return -1 << (bits(t) - 1)
}

// Max is the greatest number of a type.
func Max(t int) int {
	return Min(t) + count(t) - 1
}

// In tells whether v is one of a type's numbers.
func In(t, v int) bool {
	return known(t) && Min(t) <= v && v <= Max(t)
}

// Wrap is the number of a type that is v modulo 2 to its bits.
func Wrap(t, v int) int {
	// A mask, unlike %, takes numbers below nought up, not toward nought.
	low := v & (count(t) - 1)
	if low > Max(t) {
		return low - count(t)
	}
	return low
}

// Up is the type in which one number of type t is reckoned with.
func Up(t int) int {
	switch t {
	case api.I8, api.U8, api.I16, api.U16:
		fallthrough
	case api.I32:
		return api.I32
	case api.U32:
		return api.U32
	}
	return 0
}

// Join is the type in which a number of type a meets one of type b.
func Join(a, b int) int {
	if !known(a) || !known(b) {
		return 0
	}
	if a == api.U32 {
		return api.U32
	}
	return Up(b)
}

// Name is a type's name in a source.
func Name(t int) string {
	switch t {
	case api.I8:
		return "i8"
	case api.U8:
		return "u8"
	case api.I16:
		return "i16"
	case api.U16:
		return "u16"
	case api.I32:
		return "i32"
	case api.U32:
		return "u32"
	}
	return ""
}

// Read is the type of a name; 0: none.
func Read(s string) int {
	switch s {
	case "i8":
		return api.I8
	case "u8":
		return api.U8
	case "i16":
		return api.I16
	case "u16":
		return api.U16
	case "i32":
		return api.I32
	case "u32":
		return api.U32
	}
	return 0
}

// bits is how wide a type is; 0: there is no such type.
func bits(t int) int {
	n := 0
	// Each width falls through to the narrower ones and adds what it has beyond them.
	switch t {
	case api.I32, api.U32:
		n += 16
		fallthrough
	case api.I16, api.U16:
		n += 8
		fallthrough
	case api.I8, api.U8:
		n += 8
	}
	return n
}

// count is how many numbers a type has. Of none it is 1, not 0: so Max and Wrap of none come out as 0.
func count(t int) int {
	return 1 << bits(t)
}

func known(t int) bool {
	return bits(t) > 0
}

func signed(t int) bool {
	return t == api.I8 || t == api.I16 || t == api.I32
}
