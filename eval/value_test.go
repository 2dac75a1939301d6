package eval

import (
	"fmt"
	"math"
	"testing"

	"calliper/api"
	"calliper/memory"
)

func TestNumbers(t *testing.T) {
	wantValues(t, Env{}, []row{
		{"0", "0 i32"}, {"1", "1 i32"}, {"2147483647", "2147483647 i32"},
		{"0u", "0 u32"}, {"1u", "1 u32"}, {"2147483648u", "2147483648 u32"}, {"4294967295u", "4294967295 u32"},
		{"1 + 2", "3 i32"},
	})
	for ty, ends := range [][2]int{api.I8: {-128, 127}, api.U8: {0, 255}, api.I16: {-32768, 32767}, api.U16: {0, 65535}, api.I32: {-2147483648, 2147483647}, api.U32: {0, 4294967295}} {
		for _, v := range ends {
			if ty == 0 {
				continue
			}
			wantNode(t, []api.Expr{{Kind: api.ENum, Num: v, T: ty, A: -1, B: -1, At: 7}}, 0, Env{}, fmt.Sprint(v, " ", typeNames[ty]), 0)
		}
	}
}

func TestNames(t *testing.T) {
	e := world("i:i8=-128 j:u8=255 k:i16=-32768 l:u16=65535 m:i32=-2147483648 n:u32=4294967295 gone:u8 a:i16[3]=4,5,6 b:u8[2]=7,8", "")
	wantValues(t, e, []row{
		{"i", "-128 i8"}, {"j", "255 u8"}, {"k", "-32768 i16"}, {"l", "65535 u16"}, {"m", "-2147483648 i32"}, {"n", "4294967295 u32"},
		// Of an array place 0.
		{"a", "4 i16"}, {"b", "7 u8"},
		{"nix", "0 i32"}, {"ii", "0 i32"}, {"gone", "0 u8"},
	})
}

func TestTheLastOfAName(t *testing.T) {
	e := world("x:u8=77 y:i8=1 x:i32=-5 y:u32=9 z:i8=3 a:i8[2]=1,2 a:u16[3]=10,20,30 z:u8 gone:i16=4 gone:i8[2]=5,6", "")
	wantValues(t, e, []row{
		{"x", "-5 i32"}, {"y", "9 u32"}, {"a", "10 u16"}, {"a [ 2 ]", "30 u16"}, {"@a [ 3 ]", "0 u16 index"},
		// The last one counts even where its block is not there, or where it is an array.
		{"z", "0 u8"}, {"gone", "5 i8"}, {"gone [ 1 ]", "6 i8"},
	})
	// Blocks have no say in which one is the last.
	e.Binds[0].Id, e.Binds[2].Id = e.Binds[2].Id, e.Binds[0].Id
	wantValues(t, e, []row{{"x", "77 i32"}})
}

func TestBlocksThatThereAreNot(t *testing.T) {
	for _, id := range []int{-1, 1, 2, 99, 1 << 32, -1 << 32, math.MaxInt, math.MinInt} {
		m := memory.New()
		m.Set(m.Add(api.I8, 3), 0, 5)
		e := Env{Mem: m, Binds: []api.Bind{{Name: "x", T: api.U8, Id: id}, {Name: "a", T: api.U32, Size: 2, Id: id}}}
		wantValues(t, e, []row{{"x", "0 u8"}, {"x [ 0 ]", "0 u8"}, {"a [ 1 ]", "0 u32"}, {"a", "0 u32"}, {"x + a", "0 u32"}, {"@x [ 1 ]", "0 u8 index"}, {"@a [ 2 ]", "0 u32 index"}, {"@a [ - 1 ]", "0 u32 index"}})
	}
	// A memory without blocks is one: its names are there.
	e := Env{Mem: memory.New(), Binds: []api.Bind{{Name: "x", T: api.U8}}}
	wantValues(t, e, []row{{"x", "0 u8"}, {"@x [ 1 ]", "0 u8 index"}, {"old ( x )", "0 i32"}})
}

func TestMemoriesThatThereAreNot(t *testing.T) {
	e := world("x:u8=5 a:i16[2]=6,7", "x:u8=8 a:i16[2]=9,10")
	e.Mem = nil
	wantValues(t, e, []row{{"x", "0 i32"}, {"a", "0 i32"}, {"a [ 1 ]", "0 i32"}, {"a [ 5 ]", "0 i32"}, {"a [ - 1 ]", "0 i32"}, {"a [ 1 @/ 0 ]", "0 i32 div"}, {"x + 1u", "1 u32"}, {"~ x", "-1 i32"}, {"u8 ( x )", "0 u8"}, {"old ( x )", "8 u8"}, {"old ( a [ 1 ] )", "10 i16"}})
	e = world("x:u8=5 a:i16[2]=6,7", "x:u8=8 a:i16[2]=9,10")
	e.Old = nil
	wantValues(t, e, []row{{"old ( x )", "0 i32"}, {"old ( a [ 1 ] )", "0 i32"}, {"old ( a [ 5 ] )", "0 i32"}, {"old ( a [ 1 @/ x ] )", "0 i32 div"}, {"old ( x + 1u )", "1 u32"}, {"x", "5 u8"}, {"a [ 1 ]", "7 i16"}, {"old ( 3 )", "3 i32"}, {"old ( x ) + x", "5 i32"}})
	wantValues(t, Env{}, []row{{"x", "0 i32"}, {"x [ 1 ]", "0 i32"}, {"old ( x )", "0 i32"}, {"old ( x [ 1 ] )", "0 i32"}})
}

func TestElements(t *testing.T) {
	e := world("a:i16[3]=1,-2,3 b:u8[1]=9 c:u32[16]=0,1,2,3,4,5,6,7,8,9,10,11,12,13,14,4294967295 s:i8=-7 i:i8=2 j:u32=4294967295 k:i8=-1 gone:u16[2]", "")
	wantValues(t, e, []row{
		{"a [ 0 ]", "1 i16"}, {"a [ 1 ]", "-2 i16"}, {"a [ 2 ]", "3 i16"}, {"@a [ 3 ]", "0 i16 index"}, {"@a [ 4 ]", "0 i16 index"}, {"@a [ 2147483647 ]", "0 i16 index"},
		{"@a [ - 1 ]", "0 i16 index"}, {"@a [ - 3 ]", "0 i16 index"}, {"@a [ - 2147483647 ]", "0 i16 index"}, {"@a [ 4294967295u ]", "0 i16 index"}, {"@a [ j ]", "0 i16 index"}, {"@a [ k ]", "0 i16 index"},
		{"b [ 0 ]", "9 u8"}, {"@b [ 1 ]", "0 u8 index"}, {"c [ 15 ]", "4294967295 u32"}, {"c [ 14 ]", "14 u32"}, {"@c [ 16 ]", "0 u32 index"},
		// A scalar is as an array of one.
		{"s [ 0 ]", "-7 i8"}, {"@s [ 1 ]", "0 i8 index"}, {"@s [ - 1 ]", "0 i8 index"},
		{"a [ i ]", "3 i16"}, {"a [ i - 1 ]", "-2 i16"}, {"a [ a [ 0 ] ]", "-2 i16"}, {"@a [ a [ 1 ] ]", "0 i16 index"}, {"a [ 0u ]", "1 i16"}, {"a [ u8 ( 257 ) ]", "-2 i16"}, {"a [ j + 2 ]", "-2 i16"},
		{"gone [ 1 ]", "0 u16"}, {"@gone [ 2 ]", "0 u16 index"},
		// What its index comes to is told at its own place.
		{"a [ @a [ 3 ] ]", "0 i16 index"}, {"a [ 1 @/ 0 ]", "0 i16 div"}, {"a [ a [ 1 @% 0 ] ]", "0 i16 div"}, {"a [ 1 @<< 32 ]", "0 i16 shift"}, {"a [ 2147483647 @+ 1 ]", "0 i16 over"},
		// What is no name has no places, and no index that is wrong.
		{"nix [ 0 ]", "0 i32"}, {"nix [ 99 ]", "0 i32"}, {"nix [ - 1 ]", "0 i32"}, {"nix [ @a [ 3 ] ]", "0 i32 index"}, {"a [ nix ]", "1 i16"},
		{"1 + @a [ 3 ]", "0 i32 index"}, {"u8 ( @a [ 3 ] )", "0 u8 index"}, {"1u + a [ 1 ]", "4294967295 u32"},
	})
}

// TestSizesAreThoseOfTheName: a block may have more places, or fewer.
func TestSizesAreThoseOfTheName(t *testing.T) {
	m := memory.New()
	id := m.Add(api.I32, 3)
	for at := range 3 {
		m.Set(id, at, at+5)
	}
	e := Env{Mem: m, Binds: []api.Bind{{Name: "less", T: api.I32, Size: 2, Id: id}, {Name: "more", T: api.I32, Size: 5, Id: id}, {Name: "one", T: api.I32, Id: id}}}
	wantValues(t, e, []row{{"less [ 1 ]", "6 i32"}, {"@less [ 2 ]", "0 i32 index"}, {"more [ 2 ]", "7 i32"}, {"more [ 3 ]", "0 i32"}, {"more [ 4 ]", "0 i32"}, {"@more [ 5 ]", "0 i32 index"}, {"one", "5 i32"}, {"one [ 0 ]", "5 i32"}, {"@one [ 1 ]", "0 i32 index"}})
}

func TestOld(t *testing.T) {
	e := world("x:i32=5 i:i8=9 a:i16[3]=1,2,3 new:u8=4 big:i32=2147483647", "x:u8=200 i:i8=2 a:i16[3]=10,20,30 gone:u16 lost:i8=6 x:u8=100 big:i32=1 z:u32=0")
	wantValues(t, e, []row{
		{"old ( x )", "100 u8"}, {"old ( lost )", "6 i8"}, {"lost", "0 i32"}, {"old ( new )", "0 i32"}, {"old ( gone )", "0 u16"}, {"old ( a )", "10 i16"},
		{"old ( x ) + x", "105 i32"}, {"x + old ( x )", "105 i32"}, {"x - old ( x )", "-95 i32"}, {"x", "5 i32"},
		{"old ( a [ 2 ] )", "30 i16"}, {"a [ 2 ]", "3 i16"}, {"old ( @a [ 3 ] )", "0 i16 index"},
		// An index within it is of what was, too.
		{"old ( a [ i ] )", "30 i16"}, {"@a [ i ]", "0 i16 index"}, {"a [ old ( i ) ]", "3 i16"}, {"old ( a [ i - 1 ] )", "20 i16"}, {"a [ old ( i ) - 1 ]", "2 i16"}, {"old ( @a [ a [ 0 ] ] )", "0 i16 index"},
		{"old ( x + a [ 1 ] )", "120 i32"}, {"old ( x ) + old ( a [ 1 ] )", "120 i32"}, {"old ( x + x )", "200 i32"}, {"old ( u8 ( x + x + x ) )", "44 u8"}, {"old ( - x )", "-100 i32"}, {"old ( x + z )", "100 u32"},
		{"old ( old ( x ) )", "100 u8"}, {"old ( old ( x ) + x )", "200 i32"}, {"old ( x ) + old ( old ( x ) ) + x", "205 i32"},
		{"old ( 7 )", "7 i32"}, {"old ( 7u )", "7 u32"}, {"old ( nix )", "0 i32"}, {"old ( nix [ 4 ] )", "0 i32"},
		{"big @+ 1", "0 i32 over"}, {"old ( big + 1 )", "2 i32"}, {"old ( x @/ z )", "0 u32 div"}, {"x / old ( big )", "5 i32"}, {"x @/ old ( z )", "0 u32 div"},
	})
}

func TestResult(t *testing.T) {
	e := world("x:u8=1", "x:u8=2")
	for ty, name := range typeNames[1:] {
		e.T = ty + 1
		for _, v := range []int{0, 1, 100} {
			e.Result = v
			wantValues(t, e, []row{{"result", fmt.Sprint(v, " ", name)}, {"old ( result )", fmt.Sprint(v, " ", name)}})
		}
	}
	e.Result, e.T = -9, api.I8
	wantValues(t, e, []row{{"result", "-9 i8"}, {"result + 1", "-8 i32"}, {"result + 1u", "4294967288 u32"}, {"result / x", "-9 i32"}, {"old ( result + x )", "-7 i32"}, {"u8 ( result )", "247 u8"}, {"- result", "9 i32"}, {"x << result * 0", "1 i32"}, {"x @<< result", "0 i32 shift"}})
	e.Result, e.T = 4294967295, api.U32
	wantValues(t, e, []row{{"result", "4294967295 u32"}, {"result + x", "0 u32"}, {"~ result", "0 u32"}, {"i32 ( result )", "-1 i32"}})
	// A function without a result has none that has a type; an operand without one counts as I32.
	wantValues(t, Env{}, []row{{"result", "0 none"}, {"result + 1", "1 i32"}, {"result - 1u", "4294967295 u32"}, {"~ result", "-1 i32"}, {"1 << result", "1 i32"}})
}

func TestCasts(t *testing.T) {
	e := world("x:i32=-1 y:u32=4294967295 z:i8=-128 q:u16=40000", "")
	wantValues(t, e, []row{
		{"i8 ( x )", "-1 i8"}, {"u8 ( x )", "255 u8"}, {"i16 ( x )", "-1 i16"}, {"u16 ( x )", "65535 u16"}, {"i32 ( x )", "-1 i32"}, {"u32 ( x )", "4294967295 u32"},
		{"i8 ( y )", "-1 i8"}, {"i32 ( y )", "-1 i32"}, {"u32 ( y )", "4294967295 u32"}, {"u8 ( z )", "128 u8"}, {"u32 ( z )", "4294967168 u32"}, {"i16 ( q )", "-25536 i16"},
		{"u8 ( 255 )", "255 u8"}, {"u8 ( 256 )", "0 u8"}, {"i8 ( 127 )", "127 i8"}, {"i8 ( 128 )", "-128 i8"}, {"u8 ( i8 ( 200 ) )", "200 u8"}, {"i8 ( 200 ) + 0", "-56 i32"}, {"u8 ( 1 @/ 0 )", "0 u8 div"},
	})
}

func TestShifts(t *testing.T) {
	e := world("x:i8=5 y:u32=3 n:i8=-1 w:u32=2147483649", "")
	wantValues(t, e, []row{
		// The right one has no say in the type, and is not wrapped into it.
		{"x << y", "40 i32"}, {"y << x", "96 u32"}, {"y >> 1", "1 u32"}, {"n >> 1u", "-1 i32"}, {"- 5 >> y", "-1 i32"},
		{"y @<< n", "0 u32 shift"}, {"y @>> n", "0 u32 shift"}, {"y << - 4294967295u - 1", "3 u32"}, {"y @<< 4294967295u", "0 u32 shift"}, {"x @<< w", "0 i32 shift"}, {"x @>> w", "0 i32 shift"}, {"x @<< 4294967295u", "0 i32 shift"}, {"x @<< 32", "0 i32 shift"}, {"x >> 31", "0 i32"}, {"1u << 31", "2147483648 u32"}, {"1 @<< 31", "0 i32 over"}, {"n @<< 0", "0 i32 over"}, {"u32 ( n ) << 0", "4294967295 u32"}, {"w << 1", "2 u32"}, {"x << nix", "5 i32"}, {"nix << y", "0 i32"},
	})
	// Not even where it would come to be one that may be.
	for _, v := range []int{1 << 32, 1<<32 + 5, 5 - 1<<32, 1 << 40} {
		e.Result, e.T = v, api.U32
		wantValues(t, e, []row{{"x @<< result", "0 i32 shift"}, {"y @>> result", "0 u32 shift"}})
	}
}

func TestTheFirstUndefinedBehaviourIsTold(t *testing.T) {
	e := world("a:i16[3]=1,2,3 w:u32=7 x:i8=0", "x:i8=0")
	wantValues(t, e, []row{
		{"1 @/ 0 + 2147483647 * 2", "0 i32 div"}, {"2147483647 @* 2 + 1 / 0", "0 i32 over"}, {"1 @/ 0 / 0", "0 i32 div"}, {"w + 1 @/ 0", "0 u32 div"}, {"1 @/ 0 + w", "0 u32 div"},
		{"@a [ 3 ] + a [ 4 ]", "0 i32 index"}, {"a [ 2 ] + @a [ 4 ]", "0 i32 index"}, {"@a [ 3 ] / 0", "0 i32 index"}, {"1 / @a [ 3 ]", "0 i32 index"}, {"( 1 @<< 32 ) % ( 1 / 0 )", "0 i32 shift"},
		{"- ( 1 @/ 0 )", "0 i32 div"}, {"~ ( w @/ 0 )", "0 u32 div"}, {"u16 ( 1 @/ 0 )", "0 u16 div"}, {"old ( 1 @/ x )", "0 i32 div"}, {"old ( 1 @/ x ) + 1 / 0", "0 i32 div"}, {"1 << 1 @/ 0", "0 i32 div"}, {"w << ( 1 @/ 0 )", "0 u32 div"}, {"( 1 @/ 0 ) << 99", "0 i32 div"},
		// A kid's comes ahead of the node's own, which would be one even with it.
		{"1 / ( 1 @/ 0 )", "0 i32 div"}, {"1 % ( 1 @<< 99 )", "0 i32 shift"}, {"1 << ( 1 @% 0 - 5 )", "0 i32 div"}, {"a [ - ( 1 @/ 0 ) - 1 ]", "0 i16 div"}, {"nix + ( 1 @/ 0 )", "0 i32 div"}, {"( 1 @/ 0 ) & 1u", "0 u32 div"},
		{"- 2147483647 - 1", "-2147483648 i32"}, {"- 2147483647 @- 2", "0 i32 over"}, {"@- ( - 2147483647 - 1 )", "0 i32 over"}, {"( - 2147483647 - 1 ) @/ - 1", "0 i32 over"}, {"( - 2147483647 - 1 ) @% - 1", "0 i32 over"}, {"- 4294967295u", "1 u32"},
	})
}
