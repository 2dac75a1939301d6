package show

import (
	"strconv"
	"strings"

	"calliper/api"
	"calliper/typ"
)

// writer takes a text's tokens, one behind the other.
type writer func(tokens ...string)

// newWriter is a writer and what tells its text. A text of more than most bytes is left as soon as it is too long: how much longer it is does not count.
func newWriter(most int) (put writer, text func() string) {
	var b strings.Builder
	put = func(tokens ...string) {
		for _, t := range tokens {
			if b.Len() > most {
				return
			}
			if b.Len() > 0 {
				b.WriteByte(' ')
			}
			b.WriteString(t)
		}
	}
	return put, b.String
}

// joined puts a list's parts, with commas between.
func joined[T any](put writer, l []T, part func(v T)) {
	for i, v := range l {
		if i > 0 {
			put(",")
		}
		part(v)
	}
}

// number is the token of a number of type t.
func number(v, t int) string {
	if t == api.U32 {
		return strconv.Itoa(v) + "u"
	}
	return strconv.Itoa(v)
}

// size is the token of a number that has no type of its own: it gets the `u` only where it needs it.
func size(v int) string {
	if v > typ.Max(api.I32) {
		return number(v, api.U32)
	}
	return number(v, api.I32)
}
