/-
  DERIVED. GIVEN WITH THE SEED: THE CARDS: each row of YtpkebokfbigggaaDoorRows.lean that lists a variable, with what it lists TIED to the program's text (the seventh form; the later family's looks); each row that meets fmt, with fmt's text TOLD by the authors' own Lean function (tested against real Go, not proved from fmt's source: count such statements apart). THE CARD IS WHAT COUNTS. Prove the row's statement (the work); the ties are given (YtpkebokfbigggaaDoorTie.lean); close each card by the builder's one call (the guide's Derived/Test/ToyasCard.lean, 'card_holds'). Laid BY PROGRAM, IN A SANDBOX (cutbox-door.mjs). By AI agents, Wed Nov 11 2026. No macro, syntax, notation, axiom, sorry.
-/
import Derived.Test.YtpkebokfbigggaaDoorRows
import GoSem.ClaimSeven
namespace Go.Proofs.YtpkebokfbigggaaDoor
namespace Rows

/-- THE TIED CARD OF 'calliperlaw12.ShapeAll'. -/
def shapeAllCard : Claim7 := { stood := { row := shapeAllRow, standIns := [], harness := (true, "8e7315473c9697215e2e1a16c82e7f3df319d5ca6ceefee2e44519cea163f4a1"), looks := false }, kinds := [], alts := [], laidByText := true, laidKinds := [.data], laidTests := true, laidLooks := .later }
def ShapeAllCardSaid : Prop := Claim7.holds Tryd.pinned (.plain (OpenSpec.ofChange shapeAllSpec)) shapeAllCard

/-- THE TIED CARD OF 'calliperlaw12.ShapeDominates'. -/
def shapeDominatesCard : Claim7 := { stood := { row := shapeDominatesRow, standIns := [], harness := (true, "8e7315473c9697215e2e1a16c82e7f3df319d5ca6ceefee2e44519cea163f4a1"), looks := false }, kinds := [], alts := [], laidByText := true, laidKinds := [.data], laidTests := true, laidLooks := .later }
def ShapeDominatesCardSaid : Prop := Claim7.holds Tryd.pinned (.plain (OpenSpec.ofChange shapeDominatesSpec)) shapeDominatesCard

/-- THE TIED CARD OF 'calliperlaw12.ShapeOrders'. -/
def shapeOrdersCard : Claim7 := { stood := { row := shapeOrdersRow, standIns := [], harness := (true, "8e7315473c9697215e2e1a16c82e7f3df319d5ca6ceefee2e44519cea163f4a1"), looks := false }, kinds := [], alts := [], laidByText := true, laidKinds := [.data], laidTests := true, laidLooks := .later }
def ShapeOrdersCardSaid : Prop := Claim7.holds Tryd.pinned (.plain (OpenSpec.ofChange shapeOrdersSpec)) shapeOrdersCard

/-- THE TIED CARD OF 'calliperlaw12.ShapeRing'. -/
def shapeRingCard : Claim7 := { stood := { row := shapeRingRow, standIns := [], harness := (true, "8e7315473c9697215e2e1a16c82e7f3df319d5ca6ceefee2e44519cea163f4a1"), looks := false }, kinds := [], alts := [], laidByText := true, laidKinds := [.data], laidTests := true, laidLooks := .later }
def ShapeRingCardSaid : Prop := Claim7.holds Tryd.pinned (.plain (OpenSpec.ofChange shapeRingSpec)) shapeRingCard

/-- THE SECOND FORM's CARD OF 'calliperlaw12.ShapeAll'. -/
def shapeAllUptoCard : Claim7 := { stood := { row := shapeAllUptoRow, standIns := [], harness := (true, "8e7315473c9697215e2e1a16c82e7f3df319d5ca6ceefee2e44519cea163f4a1"), looks := false }, kinds := [], alts := [], laidByText := true, laidKinds := [.data], laidTests := true, laidLooks := .later }
def ShapeAllUptoCardSaid : Prop := Claim7.holds Tryd.pinned (.plain (OpenSpec.upto shapeAllSpec)) shapeAllUptoCard

/-- THE SECOND FORM's CARD OF 'calliperlaw12.ShapeDominates'. -/
def shapeDominatesUptoCard : Claim7 := { stood := { row := shapeDominatesUptoRow, standIns := [], harness := (true, "8e7315473c9697215e2e1a16c82e7f3df319d5ca6ceefee2e44519cea163f4a1"), looks := false }, kinds := [], alts := [], laidByText := true, laidKinds := [.data], laidTests := true, laidLooks := .later }
def ShapeDominatesUptoCardSaid : Prop := Claim7.holds Tryd.pinned (.plain (OpenSpec.upto shapeDominatesSpec)) shapeDominatesUptoCard

/-- THE SECOND FORM's CARD OF 'calliperlaw12.ShapeOrders'. -/
def shapeOrdersUptoCard : Claim7 := { stood := { row := shapeOrdersUptoRow, standIns := [], harness := (true, "8e7315473c9697215e2e1a16c82e7f3df319d5ca6ceefee2e44519cea163f4a1"), looks := false }, kinds := [], alts := [], laidByText := true, laidKinds := [.data], laidTests := true, laidLooks := .later }
def ShapeOrdersUptoCardSaid : Prop := Claim7.holds Tryd.pinned (.plain (OpenSpec.upto shapeOrdersSpec)) shapeOrdersUptoCard

/-- THE SECOND FORM's CARD OF 'calliperlaw12.ShapeRing'. -/
def shapeRingUptoCard : Claim7 := { stood := { row := shapeRingUptoRow, standIns := [], harness := (true, "8e7315473c9697215e2e1a16c82e7f3df319d5ca6ceefee2e44519cea163f4a1"), looks := false }, kinds := [], alts := [], laidByText := true, laidKinds := [.data], laidTests := true, laidLooks := .later }
def ShapeRingUptoCardSaid : Prop := Claim7.holds Tryd.pinned (.plain (OpenSpec.upto shapeRingSpec)) shapeRingUptoCard
end Rows
end Go.Proofs.YtpkebokfbigggaaDoor
