/-
  No cell of these rows narrows 'for every input' (looked for: loops, veiled, ifaces, maps, wideKeys, modest, calm, conditions, laid).
  DERIVED. THE GIVEN ROWS OF THIS SEAT. 4 by the template 'for every input the law returns true; each argument reads behind the call as it read before'; 0 by the template 'total and deterministic' (their statements: YtakcnaahgcfkkaaTotals.lean).
  GIVEN WITH THE SEED: the statements are not yours to turn. If you find one false, say at which input.
  Laid BY PROGRAM, IN A SANDBOX (cutbox-rows.mjs): the forced cells as the released guide's own fill.sh prints them over the translation ae0a0b351d9cd74b… (all of the seat's roots in one cut). By AI agents, Wed Nov 11 2026. No macro, syntax, notation, axiom, sorry.
-/
import Derived.Test.YtakcnaahgcfkkaaChecked
import GoSem.Claim
import GoSem.ClaimJoined
import GoSem.ClaimMapViews
import Derived.JoinedTies
import Derived.KernelRfl
namespace Go.Proofs.Ytakcnaahgcfkkaa
/- THE CELL 'sum', in the pinned program and in every row, IS THE sha256 OF THE DUMP (.gsa) THAT YtakcnaahgcfkkaaProg.lean LOADS. Nothing in Lean hashes anything: it is a label: what it is worth is what the hold of that sum in a sandbox is worth. -/
noncomputable def Try.pinned : Pinned := { name := "ytakcnaahgcfkkaa", sum := "ae0a0b351d9cd74b17642e08e0217f559857e691eb4da3042d19c8d2b140b59d", checked := Try.checked }
namespace Rows
def none {H : Type} : Left H := { results := [], args := [] }

/-- 'calliperlaw1.TypAll': WHATEVER THE INPUT: true; the input reads as it did. -/
def typAllSpec : ChangeSpec := { name := "typAll", fn := fun _ => fun
  | [d1, d2, d3, d4] => { results := [.lit (.bool true)], args := [d1, d2, d3, d4] }
  | _ => none }
def typAllRow : OpenClaim := { program := "ytakcnaahgcfkkaa", sum := "ae0a0b351d9cd74b17642e08e0217f559857e691eb4da3042d19c8d2b140b59d", func := "calliper/calliperlaw1.TypAll", spec := "typAll", apart := false }
def TypAllSaid : Prop := typAllRow.holds Try.pinned (OpenSpec.ofChange typAllSpec)

/-- ITS FALSE NEIGHBOUR: 'it returns false'. Refute it at one input. -/
def typAllWrong : ChangeSpec := { name := "typAll", fn := fun _ => fun
  | [d1, d2, d3, d4] => { results := [.lit (.bool false)], args := [d1, d2, d3, d4] }
  | _ => none }
def TypAllWrongFalsely : Prop := typAllRow.holds Try.pinned (OpenSpec.ofChange typAllWrong)

/-- 'calliperlaw1.TypWraps': WHATEVER THE INPUT: true; the input reads as it did. -/
def typWrapsSpec : ChangeSpec := { name := "typWraps", fn := fun _ => fun
  | [d1, d2, d3] => { results := [.lit (.bool true)], args := [d1, d2, d3] }
  | _ => none }
def typWrapsRow : OpenClaim := { program := "ytakcnaahgcfkkaa", sum := "ae0a0b351d9cd74b17642e08e0217f559857e691eb4da3042d19c8d2b140b59d", func := "calliper/calliperlaw1.TypWraps", spec := "typWraps", apart := false }
def TypWrapsSaid : Prop := typWrapsRow.holds Try.pinned (OpenSpec.ofChange typWrapsSpec)

/-- ITS FALSE NEIGHBOUR: 'it returns false'. Refute it at one input. -/
def typWrapsWrong : ChangeSpec := { name := "typWraps", fn := fun _ => fun
  | [d1, d2, d3] => { results := [.lit (.bool false)], args := [d1, d2, d3] }
  | _ => none }
def TypWrapsWrongFalsely : Prop := typWrapsRow.holds Try.pinned (OpenSpec.ofChange typWrapsWrong)

/-- 'calliperlaw1.TypNames': WHATEVER THE INPUT: true; the input reads as it did. -/
def typNamesSpec : ChangeSpec := { name := "typNames", fn := fun _ => fun
  | [d] => { results := [.lit (.bool true)], args := [d] }
  | _ => none }
def typNamesRow : OpenClaim := { program := "ytakcnaahgcfkkaa", sum := "ae0a0b351d9cd74b17642e08e0217f559857e691eb4da3042d19c8d2b140b59d", func := "calliper/calliperlaw1.TypNames", spec := "typNames", apart := false }
def TypNamesSaid : Prop := typNamesRow.holds Try.pinned (OpenSpec.ofChange typNamesSpec)

/-- ITS FALSE NEIGHBOUR: 'it returns false'. Refute it at one input. -/
def typNamesWrong : ChangeSpec := { name := "typNames", fn := fun _ => fun
  | [d] => { results := [.lit (.bool false)], args := [d] }
  | _ => none }
def TypNamesWrongFalsely : Prop := typNamesRow.holds Try.pinned (OpenSpec.ofChange typNamesWrong)

/-- 'calliperlaw1.TypSizes': WHATEVER THE INPUT: true; the input reads as it did. -/
def typSizesSpec : ChangeSpec := { name := "typSizes", fn := fun _ => fun
  | [d1, d2] => { results := [.lit (.bool true)], args := [d1, d2] }
  | _ => none }
def typSizesRow : OpenClaim := { program := "ytakcnaahgcfkkaa", sum := "ae0a0b351d9cd74b17642e08e0217f559857e691eb4da3042d19c8d2b140b59d", func := "calliper/calliperlaw1.TypSizes", spec := "typSizes", apart := false }
def TypSizesSaid : Prop := typSizesRow.holds Try.pinned (OpenSpec.ofChange typSizesSpec)

/-- ITS FALSE NEIGHBOUR: 'it returns false'. Refute it at one input. -/
def typSizesWrong : ChangeSpec := { name := "typSizes", fn := fun _ => fun
  | [d1, d2] => { results := [.lit (.bool false)], args := [d1, d2] }
  | _ => none }
def TypSizesWrongFalsely : Prop := typSizesRow.holds Try.pinned (OpenSpec.ofChange typSizesWrong)

/- THE SECOND FORM. 'bulk': how many values and letters a reading holds, each counted each time it is reached (what is shared counts as often as it is met; a slice's spare places count too). A statement '..UptoSaid' is the law's where the arguments, and the package variables that the reading takes, are together of bulk at most 1048576: NARROWER than '..Said'. Prove '..Said' where nothing that the law and all that it calls make is longer than what came in: it says more and counts as full. Else prove '..UptoSaid'. A law counts once. -/
mutual
def uptoBulk {H : Type} : DataW H → Nat
  | .lit (.string bytes) => bytes.length + 1
  | .lit _ => 1
  | .nil => 1
  | .ptr d => uptoBulk d + 1
  | .slice elems spare => uptoBulkAll elems + uptoBulkAll spare + 1
  | .agg parts => uptoBulkAll parts + 1
  | .iface _ d => uptoBulk d + 1
  | .map entries => uptoBulkEntries entries + 1
  | .held _ => 1
def uptoBulkAll {H : Type} : List (DataW H) → Nat
  | [] => 0
  | d :: r => uptoBulk d + uptoBulkAll r
def uptoBulkEntries {H : Type} : List (Lit × DataW H) → Nat
  | [] => 0
  | x :: r => uptoBulkEntry x + uptoBulkEntries r
def uptoBulkEntry {H : Type} : Lit × DataW H → Nat
  | (.string bytes, d) => bytes.length + uptoBulk d + 1
  | (_, d) => uptoBulk d + 1
 end
def uptoSmall : (H : Type) → List (DataW H) → Bool := fun _ ds => decide (uptoBulkAll ds ≤ 1048576)
def OpenSpec.upto (s : _root_.Go.ChangeSpec) : _root_.Go.OpenSpec := { _root_.Go.OpenSpec.ofChange s with cond := some uptoSmall }

/-- 'calliperlaw1.TypAll', WHERE WHAT IT READS IS OF BULK AT MOST 1048576: true; the input reads as it did. -/
def typAllUptoRow : OpenClaim := { program := "ytakcnaahgcfkkaa", sum := "ae0a0b351d9cd74b17642e08e0217f559857e691eb4da3042d19c8d2b140b59d", func := "calliper/calliperlaw1.TypAll", spec := "typAll", apart := false, narrowed := true }
def TypAllUptoSaid : Prop := typAllUptoRow.holds Try.pinned (OpenSpec.upto typAllSpec)

/-- 'calliperlaw1.TypWraps', WHERE WHAT IT READS IS OF BULK AT MOST 1048576: true; the input reads as it did. -/
def typWrapsUptoRow : OpenClaim := { program := "ytakcnaahgcfkkaa", sum := "ae0a0b351d9cd74b17642e08e0217f559857e691eb4da3042d19c8d2b140b59d", func := "calliper/calliperlaw1.TypWraps", spec := "typWraps", apart := false, narrowed := true }
def TypWrapsUptoSaid : Prop := typWrapsUptoRow.holds Try.pinned (OpenSpec.upto typWrapsSpec)

/-- 'calliperlaw1.TypNames', WHERE WHAT IT READS IS OF BULK AT MOST 1048576: true; the input reads as it did. -/
def typNamesUptoRow : OpenClaim := { program := "ytakcnaahgcfkkaa", sum := "ae0a0b351d9cd74b17642e08e0217f559857e691eb4da3042d19c8d2b140b59d", func := "calliper/calliperlaw1.TypNames", spec := "typNames", apart := false, narrowed := true }
def TypNamesUptoSaid : Prop := typNamesUptoRow.holds Try.pinned (OpenSpec.upto typNamesSpec)

/-- 'calliperlaw1.TypSizes', WHERE WHAT IT READS IS OF BULK AT MOST 1048576: true; the input reads as it did. -/
def typSizesUptoRow : OpenClaim := { program := "ytakcnaahgcfkkaa", sum := "ae0a0b351d9cd74b17642e08e0217f559857e691eb4da3042d19c8d2b140b59d", func := "calliper/calliperlaw1.TypSizes", spec := "typSizes", apart := false, narrowed := true }
def TypSizesUptoSaid : Prop := typSizesUptoRow.holds Try.pinned (OpenSpec.upto typSizesSpec)

end Rows
end Go.Proofs.Ytakcnaahgcfkkaa
