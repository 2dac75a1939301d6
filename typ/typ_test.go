package typ

import (
	"math"
	"strings"
	"testing"

	"calliper/api"
)

// A row is written out by hand, so that no slip of the package is shared by its tests.
type row struct {
	t, min, max int
	name        string
	up          int
	wrap        func(v int) int
}

func rows() []row {
	return []row{
		{api.I8, -128, 127, "i8", api.I32, func(v int) int { return int(int8(v)) }},
		{api.U8, 0, 255, "u8", api.I32, func(v int) int { return int(uint8(v)) }},
		{api.I16, -32768, 32767, "i16", api.I32, func(v int) int { return int(int16(v)) }},
		{api.U16, 0, 65535, "u16", api.I32, func(v int) int { return int(uint16(v)) }},
		{api.I32, -2147483648, 2147483647, "i32", api.I32, func(v int) int { return int(int32(v)) }},
		{api.U32, 0, 4294967295, "u32", api.U32, func(v int) int { return int(uint32(v)) }},
	}
}

// nones are numbers that no type has: those next to the types, those far off, and those whose low bits are a type's.
func nones() []int {
	return []int{0, 7, 8, 9, 16, 32, 63, 64, 100, -1, -2, -6, -7, 256 + api.I8, 1<<32 + api.I32, 1<<32 + api.U32, math.MaxInt, math.MinInt, math.MinInt + api.U8}
}

// probes are numbers at and around each power of two and each edge of a type, and the ends of int.
func probes() []int {
	vs := []int{math.MinInt, math.MinInt + 1, math.MaxInt, math.MaxInt - 1, 123456789012345, -123456789012345}
	for n := range 63 {
		for d := -3; d <= 3; d++ {
			vs = append(vs, 1<<n+d, -1<<n+d, 3<<n+d, -3<<n+d)
		}
	}
	for _, r := range rows() {
		for d := -3; d <= 3; d++ {
			vs = append(vs, r.min+d, r.max+d)
		}
	}
	return vs
}

// near is every number around the 8 and 16 bit types, some turns of them.
func near(do func(v int)) {
	for v := -1 << 17; v <= 1<<17; v++ {
		do(v)
	}
}

func TestMinMax(t *testing.T) {
	for _, r := range rows() {
		if got := Min(r.t); got != r.min {
			t.Errorf("1.1: Min(%s) = %d, not %d", r.name, got, r.min)
		}
		if got := Max(r.t); got != r.max {
			t.Errorf("1.1: Max(%s) = %d, not %d", r.name, got, r.max)
		}
	}
}

func TestIn(t *testing.T) {
	for _, r := range rows() {
		check := func(v int) {
			if want := r.min <= v && v <= r.max; In(r.t, v) != want {
				t.Errorf("1.1: In(%s, %d) is not %v", r.name, v, want)
			}
		}
		for _, v := range probes() {
			check(v)
		}
		near(check)
	}
}

func TestInAtTheEdges(t *testing.T) {
	for _, r := range rows() {
		if !In(r.t, r.min) || !In(r.t, r.max) {
			t.Errorf("1.1: %s lacks its least or its greatest", r.name)
		}
		if In(r.t, r.min-1) || In(r.t, r.max+1) {
			t.Errorf("1.1: %s has one beyond its edges", r.name)
		}
	}
}

func TestWrap(t *testing.T) {
	for _, r := range rows() {
		check := func(v int) {
			if got, want := Wrap(r.t, v), r.wrap(v); got != want {
				t.Errorf("1.1: Wrap(%s, %d) = %d, not %d", r.name, v, got, want)
			}
		}
		for _, v := range probes() {
			check(v)
		}
		near(check)
	}
}

func TestWrapOfExamples(t *testing.T) {
	for _, c := range []struct{ t, v, want int }{
		{api.U8, 257, 1},
		{api.U8, -1, 255},
		{api.U8, 256, 0},
		{api.U8, -256, 0},
		{api.I8, 128, -128},
		{api.I8, -129, 127},
		{api.I8, 255, -1},
		{api.I16, 32768, -32768},
		{api.I16, -32769, 32767},
		{api.U16, 65536, 0},
		{api.U16, -1, 65535},
		{api.I32, 2147483648, -2147483648},
		{api.I32, -2147483649, 2147483647},
		{api.I32, 4294967295, -1},
		{api.U32, 4294967296, 0},
		{api.U32, -1, 4294967295},
		{api.I32, 1<<62 + 5, 5},
		{api.U8, math.MaxInt, 255},
		{api.I8, math.MaxInt, -1},
		{api.I32, math.MaxInt, -1},
		{api.U32, math.MaxInt, 4294967295},
		{api.I8, math.MinInt, 0},
		{api.U32, math.MinInt, 0},
		{api.I32, math.MinInt + 7, 7},
	} {
		if got := Wrap(c.t, c.v); got != c.want {
			t.Errorf("1.1: Wrap(%s, %d) = %d, not %d", Name(c.t), c.v, got, c.want)
		}
	}
}

func TestUp(t *testing.T) {
	for _, r := range rows() {
		if got := Up(r.t); got != r.up {
			t.Errorf("1.2: Up(%s) = %d, not %d", r.name, got, r.up)
		}
	}
}

func TestJoin(t *testing.T) {
	for _, a := range rows() {
		for _, b := range rows() {
			want := api.I32
			if a.t == api.U32 || b.t == api.U32 {
				want = api.U32
			}
			if got := Join(a.t, b.t); got != want {
				t.Errorf("1.2: Join(%s, %s) = %d, not %d", a.name, b.name, got, want)
			}
		}
	}
}

func TestNames(t *testing.T) {
	for _, r := range rows() {
		if got := Name(r.t); got != r.name {
			t.Errorf("1.2: Name(%d) = %q, not %q", r.t, got, r.name)
		}
		if got := Read(r.name); got != r.t {
			t.Errorf("1.2: Read(%q) = %d, not %d", r.name, got, r.t)
		}
	}
}

func TestReadOfNoName(t *testing.T) {
	for _, s := range []string{"", "i", "u", "8", "i1", "i3", "u3", "i9", "u64", "i64", "i128", "int", "bool", "i08", "i 8", "i-8", "i8u8", "8i", "23i", "\x00", "i8\x00", "\xff\xfe", "ı8", "i８", strings.Repeat("i8", 10000)} {
		if got := Read(s); got != 0 {
			t.Errorf("1.2: Read(%q) = %d, not 0", s, got)
		}
	}
	for _, r := range rows() {
		for _, s := range []string{strings.ToUpper(r.name), " " + r.name, r.name + " ", r.name + "\n", r.name + "0", r.name[:1], r.name[1:], r.name + r.name} {
			if got := Read(s); got != 0 {
				t.Errorf("1.2: Read(%q) = %d, not 0", s, got)
			}
		}
	}
}

func TestOfNoType(t *testing.T) {
	for _, n := range nones() {
		if Min(n) != 0 || Max(n) != 0 {
			t.Errorf("1.1: of none, %d: Min %d, Max %d", n, Min(n), Max(n))
		}
		for _, v := range probes() {
			if In(n, v) || Wrap(n, v) != 0 {
				t.Errorf("1.1: of none, %d: In(%d) %v, Wrap %d", n, v, In(n, v), Wrap(n, v))
			}
		}
		if Up(n) != 0 || Name(n) != "" {
			t.Errorf("1.2: of none, %d: Up %d, Name %q", n, Up(n), Name(n))
		}
	}
}

func TestJoinWithNoType(t *testing.T) {
	for _, n := range nones() {
		for _, r := range rows() {
			if Join(n, r.t) != 0 || Join(r.t, n) != 0 {
				t.Errorf("1.2: Join of %s and none, %d: %d, %d", r.name, n, Join(n, r.t), Join(r.t, n))
			}
		}
		for _, m := range nones() {
			if Join(n, m) != 0 {
				t.Errorf("1.2: Join of two that are none, %d, %d: %d", n, m, Join(n, m))
			}
		}
	}
}

func TestWrapIsInAndLeavesAlone(t *testing.T) {
	for _, r := range rows() {
		check := func(v int) {
			w := Wrap(r.t, v)
			if !In(r.t, w) {
				t.Errorf("1.3: Wrap(%s, %d) = %d, which is not In", r.name, v, w)
			}
			if In(r.t, v) && w != v {
				t.Errorf("1.3: Wrap(%s, %d) = %d, though it is In", r.name, v, w)
			}
			if Wrap(r.t, w) != w {
				t.Errorf("1.3: Wrap(%s, %d) = %d changes when it is wrapped again", r.name, v, w)
			}
		}
		for _, v := range probes() {
			check(v)
		}
		near(check)
	}
}
