package rules

import (
	"fmt"
	"testing"

	"calliper/api"
	"calliper/typ"
)

// oneOfEach has scalars v1 to v6 and arrays a1 to a6, of the types 1 to 6.
func oneOfEach() api.Layout {
	var y api.Layout
	for ty := api.I8; ty <= api.U32; ty++ {
		y.Vars = append(y.Vars, api.Bind{Name: fmt.Sprint("v", ty), T: ty, Id: ty - 1})
		y.Arrs = append(y.Arrs, api.Bind{Name: fmt.Sprint("a", ty), T: ty, Size: 2, Id: ty - 1})
	}
	return y
}

func wantType(t *testing.T, src string, y api.Layout, result, want int) {
	t.Helper()
	l := mustExpr(t, src)
	if got := Type(l, len(l)-1, y, result); got != want {
		t.Errorf("5.6: Type of %s (result %d): %d, want %d", src, result, got, want)
	}
}

func TestTypesOfNodesWithoutOperators(t *testing.T) {
	y := oneOfEach()
	wantType(t, "0", y, 0, api.I32)
	wantType(t, "2147483647", y, 0, api.I32)
	wantType(t, "0u", y, 0, api.U32)
	wantType(t, "4294967295u", y, 0, api.U32)
	for ty := api.I8; ty <= api.U32; ty++ {
		wantType(t, fmt.Sprint("v", ty), y, 0, ty)
		wantType(t, fmt.Sprint("a", ty, " [ 0 ]"), y, 0, ty)
		// An index, a cast's operand have no say.
		for _, index := range []string{"v1", "v6", "a6 [ a6 [ v6 ] ]", "1u + v6", "nix"} {
			wantType(t, fmt.Sprint("a", ty, " [ ", index, " ]"), y, 0, ty)
			wantType(t, fmt.Sprint(typ.Name(ty), " ( ", index, " )"), y, 0, ty)
		}
		wantType(t, fmt.Sprint("old ( v", ty, " )"), y, 0, ty)
		wantType(t, fmt.Sprint("old ( a", ty, " [ v6 ] )"), y, 0, ty)
		wantType(t, fmt.Sprint("old ( old ( v", ty, " ) )"), y, 0, ty)
		wantType(t, "result", y, ty, ty)
		wantType(t, "old ( result )", y, ty, ty)
	}
	wantType(t, "old ( v1 + v6 )", y, 0, api.U32)
	wantType(t, "old ( 1 )", y, 0, api.I32)
	wantType(t, "result", y, 0, 0)
}

func TestTypesOfOperators(t *testing.T) {
	y := oneOfEach()
	for a := api.I8; a <= api.U32; a++ {
		x := fmt.Sprint("v", a)
		for _, sign := range []string{"-", "~", "- ~", "- - -"} {
			wantType(t, sign+" "+x, y, 0, typ.Up(a))
			wantType(t, sign+" result", y, a, typ.Up(a))
		}
		for b := api.I8; b <= api.U32; b++ {
			z := fmt.Sprint("v", b)
			for _, sign := range []string{"+", "-", "*", "/", "%", "&", "|", "^"} {
				wantType(t, x+" "+sign+" "+z, y, 0, typ.Join(a, b))
				wantType(t, "result "+sign+" "+z, y, a, typ.Join(a, b))
			}
			// Of a shift the left one counts alone.
			for _, sign := range []string{"<<", ">>"} {
				wantType(t, x+" "+sign+" "+z, y, 0, typ.Up(a))
			}
		}
	}
	wantType(t, "v1 + v2 * v3 - v6", y, 0, api.U32)
	wantType(t, "v1 + v2 * i8 ( v6 )", y, 0, api.I32)
	wantType(t, "( v1 << v6 ) + v2", y, 0, api.I32)
	wantType(t, "v1 << v6 >> v6", y, 0, api.I32)
	wantType(t, "v1 + v6 << v1", y, 0, api.U32)
	wantType(t, "1 + 1", y, 0, api.I32)
	wantType(t, "1 + 1u", y, 0, api.U32)
	wantType(t, "1u - 1", y, 0, api.U32)
}

func TestTypesOfWhatIsNone(t *testing.T) {
	y := oneOfEach()
	// Arrays are no scalars, scalars no arrays.
	for _, s := range []string{"nix", "a1", "nix [ 0 ]", "v1 [ 0 ]", "old ( nix )", "old ( a6 )", "old ( old ( v6 [ 0 ] ) )"} {
		wantType(t, s, y, 0, 0)
		// As operands they are as I32.
		wantType(t, "- "+s, y, 0, api.I32)
		wantType(t, "~ "+s, y, 0, api.I32)
		for _, sign := range []string{"+", "-", "*", "/", "%", "&", "|", "^", "<<", ">>"} {
			wantType(t, s+" "+sign+" "+s, y, 0, api.I32)
			wantType(t, s+" "+sign+" v1", y, 0, api.I32)
			wantType(t, "v1 "+sign+" "+s, y, 0, api.I32)
			wantType(t, "v6 "+sign+" "+s, y, 0, api.U32)
		}
		wantType(t, s+" + v6", y, 0, api.U32)
		wantType(t, s+" << v6", y, 0, api.I32)
		wantType(t, "u8 ( "+s+" )", y, 0, api.U8)
	}
	wantType(t, "- result", y, 0, api.I32)
	wantType(t, "result + result", y, 0, api.I32)
	wantType(t, "result + v6", y, 0, api.U32)
	wantType(t, "v1", api.Layout{}, 0, 0)
	wantType(t, "a1 [ 0 ]", api.Layout{}, 0, 0)
}

func TestPlacesThatThereAreNot(t *testing.T) {
	l := mustExpr(t, "1u")
	for _, at := range []int{-1, 1, 2, -1 << 63, 1<<63 - 1} {
		if got := Type(l, at, oneOfEach(), api.U8); got != 0 {
			t.Error("5.6: at", at, got)
		}
	}
	if Type(nil, 0, api.Layout{}, api.U8) != 0 || Type([]api.Expr{}, 0, api.Layout{}, api.U8) != 0 {
		t.Error("5.6: of no nodes")
	}
	for _, kind := range []int{0, -1, api.ECast + 1, 77, 1 << 62} {
		if got := Type([]api.Expr{{Kind: kind, T: api.U8, Name: "v1", A: -1, B: -1}}, 0, oneOfEach(), api.U8); got != 0 {
			t.Error("5.6: kind", kind, got)
		}
	}
	// Kids that there are not.
	u32 := api.Expr{Kind: api.ENum, T: api.U32, A: -1, B: -1}
	for _, none := range []int{-1, 2, -1 << 63, 1<<63 - 1} {
		for kind, want := range map[int][2]int{api.EOld: {0, api.U32}, api.ENeg: {api.I32, api.U32}, api.ECom: {api.I32, api.U32}, api.EShl: {api.I32, api.U32}, api.EAdd: {api.U32, api.U32}, api.EXor: {api.U32, api.U32}} {
			if got := Type([]api.Expr{u32, {Kind: kind, A: none, B: 0}}, 1, oneOfEach(), 0); got != want[0] {
				t.Error("5.6: kind", kind, "without A", got)
			}
			if got := Type([]api.Expr{u32, {Kind: kind, A: 0, B: none}}, 1, oneOfEach(), 0); got != want[1] {
				t.Error("5.6: kind", kind, "without B", got)
			}
		}
		if got := Type([]api.Expr{u32, {Kind: api.EMul, A: none, B: none}}, 1, oneOfEach(), 0); got != api.I32 {
			t.Error("5.6: EMul without both", got)
		}
	}
}

func TestEachPlaceOfAList(t *testing.T) {
	l := mustExpr(t, "v6 + - ( v1 * a2 [ v3 ] ) << u8 ( nix )")
	y := oneOfEach()
	want := []int{api.U32, api.I8, api.U16 - 1, api.U8, api.I32, api.I32, api.U32, 0, api.U8, api.U32}
	if len(l) != len(want) {
		t.Fatal(len(l))
	}
	for at, w := range want {
		if got := Type(l, at, y, 0); got != w {
			t.Error("5.6: at", at, got, "not", w)
		}
	}
}

func TestTheFirstOfAName(t *testing.T) {
	y := api.Layout{
		Vars: []api.Bind{{Name: "w", T: api.I8}, {Name: "x", T: api.U32}, {Name: "x", T: api.I8}},
		Arrs: []api.Bind{{Name: "x", T: api.U16}, {Name: "x", T: api.I16}, {Name: "w", T: api.U8}},
	}
	wantType(t, "x", y, 0, api.U32)
	wantType(t, "x [ 0 ]", y, 0, api.U16)
	wantType(t, "w", y, 0, api.I8)
	wantType(t, "w [ 0 ]", y, 0, api.U8)
}

// Lists that are no trees: a call ends, and soon.
func TestListsThatAreNoTrees(t *testing.T) {
	y := oneOfEach()
	// Each node is both kids of the next: as many ways as 2 to 60.
	shared := []api.Expr{{Kind: api.ENum, T: api.U32, A: -1, B: -1}}
	for i := range 60 {
		shared = append(shared, api.Expr{Kind: api.EAdd, A: i, B: i})
	}
	if got := Type(shared, 60, y, 0); got != api.U32 {
		t.Error("5.6: shared kids", got)
	}
	// Nodes that are their own kids, or one another's.
	for kind := range api.ECast + 2 {
		Type([]api.Expr{{Kind: kind}}, 0, y, 0)
		Type([]api.Expr{{Kind: kind, A: 1, B: 1}, {Kind: kind}}, 0, y, 0)
		Type([]api.Expr{{Kind: kind, A: 1, B: 2}, {Kind: kind, A: 2}, {Kind: kind, A: 1, B: 1}}, 1, y, 0)
	}
	// Kids behind their parent.
	if got := Type([]api.Expr{{Kind: api.ESub, A: 1, B: 2}, {Kind: api.EVar, Name: "v1"}, {Kind: api.ENeg, A: 3}, {Kind: api.EVar, Name: "v6"}}, 0, y, 0); got != api.U32 {
		t.Error("5.6: kids behind their parent", got)
	}
	// A list as deep as it is long.
	deep := []api.Expr{{Kind: api.EVar, Name: "v6"}}
	for i := range 1 << 20 {
		deep = append(deep, api.Expr{Kind: api.EOld, A: i})
	}
	if got := Type(deep, 1<<20, y, 0); got != api.U32 {
		t.Error("5.6: a deep list", got)
	}
}
