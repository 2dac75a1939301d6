/-
  What the rows' condition (the three package variables read as the program lays them) gives the walks; the heap that the program's own start leaves meets it.
-/
import Derived.Test.YtoafcpbpnkfhoaaGreatDoorLexM
import Derived.ProofKit
import Derived.LaidMore
import Derived.LaidLaws
import Derived.LaidHandle
import Derived.OpenShut
import Derived.Stop.Joined
import Derived.ChangeSame
import Derived.JoinedOf
namespace Go.Proofs.YtoafcpbpnkfhoaaGreatDoor.Lex
open Go.ChangeShapes Go.WideShapes Go.ChangeAt Go.RowKit

abbrev laid3 : List (String × DataW Unit) := [("errors.errorType", Rows.laid_errors_errorType), ("calliper/lex.errLong", Rows.laid_calliper_lex_errLong), ("calliper/lex.errWord", Rows.laid_calliper_lex_errWord)]
theorem own : ownKnob Tryz.prog.godebug = none := by kernel_rfl
theorem gT : Tryz.prog.globalNamed "errors.errorType" = some 2 := by kernel_rfl
theorem gL : Tryz.prog.globalNamed "calliper/lex.errLong" = some 0 := by kernel_rfl
theorem gW : Tryz.prog.globalNamed "calliper/lex.errWord" = some 1 := by kernel_rfl
theorem tyL : (Tryz.prog.globals[0]?).map (·.type) = some 64 := by kernel_rfl
theorem tyW : (Tryz.prog.globals[1]?).map (·.type) = some 64 := by kernel_rfl
theorem rt : (Tryz.prog.cutTypes.find? (·.1 == "internal/reflectlite.rtype")).map (·.2) = some 114 := by kernel_rfl
theorem nTypes : Tryz.prog.types.size = 188 := by kernel_rfl
theorem oneRow : ((List.range 188).filter fun t => Tryz.prog.rowNamed t [101, 114, 114, 111, 114]) = [64] := by kernel_rfl
theorem hErr : typeHandle Tryz.prog 64 = .pointer (some ⟨4, 64, none⟩) := by kernel_rfl
theorem c1 : Tryz.prog.cellsOf 176 = 1 := by kernel_rfl
theorem c9 : Tryz.prog.cellsOf 9 = 1 := by kernel_rfl

/-- The heap that the program's own start leaves meets the condition. -/
theorem door_met (os : Os) (args : Array Value) : laidMetH Tryz.prog laid3 ((World.doorLaid Tryz.prog 400 os).forCall (fun _ _ => 0) ⟨#[], args, []⟩).memory :=
  laidMetH_of_parts3 (fuel := 8) (laidMet_of_run' 8 (by kernel_rfl) (by kernel_rfl)) (by kernel_rfl) (by kernel_rfl)
theorem star : "*" ++ "errors.errorString" = "*errors.errorString" := by decide
theorem rowE (u : TypeId) (h : Tryz.prog.typeName? 3 u = some "*errors.errorString") : u = 155 :=
  typeName_ptr_named (nm := "errors.errorString") (by rw [star]; kernel_rfl) (by kernel_rfl) (by decide) u (by rw [star]; exact h)

set_option maxRecDepth 100000 in
theorem of_laid {W : World} (h : laidMetH Tryz.prog laid3 W) : ∃ pL pW, Laid W pL pW := by
  have h' : laidMet Tryz.prog [("calliper/lex.errLong", Rows.laid_calliper_lex_errLong), ("calliper/lex.errWord", Rows.laid_calliper_lex_errWord)] W ∧ handlesMet Tryz.prog [("errors.errorType", Rows.laid_errors_errorType)] W := h
  obtain ⟨hl, hh⟩ := h'
  clear h
  obtain ⟨name, u, ty, e1, e2, e3, e4, e5⟩ := hh _ (List.mem_singleton.2 rfl)
  have en : name = [101, 114, 114, 111, 114] := (Option.some.inj e1).symm
  subst en
  obtain rfl := Option.some.inj (rt.symm.trans e2)
  have hm : ty ∈ (List.range 188).filter fun t => Tryz.prog.rowNamed t [101, 114, 114, 111, 114] := List.mem_filter.2 ⟨List.mem_range.2 (by rw [← nTypes]; exact e3), e4⟩
  rw [oneRow] at hm
  obtain rfl := List.mem_singleton.1 hm
  rw [hErr] at e5
  have hT : W.cell? ⟨2, 0, none⟩ = some (.iface 114 (.agg #[.pointer (some ⟨4, 64, none⟩)])) := by simpa using World.var?_cell gT e5 0
  obtain ⟨ps, ⟨g0, t0, cs0, f0, p0, q0, hg0, ht0, hv0, hd0, ⟨g1, t1, cs1, f1, p1, q1, hg1, ht1, hv1, hd1, hq1, e1⟩, e0⟩, hnd, hrows⟩ := hl
  obtain rfl := Option.some.inj (gL.symm.trans hg0)
  obtain rfl := Option.some.inj (gW.symm.trans hg1)
  obtain rfl := Option.some.inj (tyL.symm.trans ht0)
  obtain rfl := Option.some.inj (tyW.symm.trans ht1)
  have hq1' : q1 = [] := hq1
  subst hq1'
  subst e1
  subst e0
  obtain ⟨l0⟩ := cs0
  obtain ⟨l1⟩ := cs1
  have ok0 : ∀ u v, l0 = [.iface u v] → Value.okWide Tryz.prog W .any 0 u v := fun u v e => by
    subst e
    exact (hrows 0 0 (by simp [MemPlace.row])).2 u v (by simpa using World.var?_cell hg0 hv0 0)
  have ok1 : ∀ u v, l1 = [.iface u v] → Value.okWide Tryz.prog W .any 0 u v := fun u v e => by
    subst e
    exact (hrows 1 0 (by simp [MemPlace.row])).2 u v (by simpa using World.var?_cell hg1 hv1 0)
  obtain ⟨a0, s0, rfl, hc0, hs0, hz0, rfl⟩ := errorString_of_trod Tryz.underlying64 rowE Tryz.underlying155 Tryz.underlying176 rfl rfl Tryz.underlying9 c1 c9 hd0 ok0
  obtain ⟨a1, s1, rfl, hc1, hs1, hz1, rfl⟩ := errorString_of_trod Tryz.underlying64 rowE Tryz.underlying155 Tryz.underlying176 rfl rfl Tryz.underlying9 c1 c9 hd1 ok1
  obtain ⟨c0, t0, hb0⟩ := (hrows a0.block a0.off (by simp [MemPlace.row])).1
  obtain ⟨c1, t1, hb1⟩ := (hrows a1.block a1.off (by simp [MemPlace.row])).1
  have hL : W.cell? ⟨0, 0, none⟩ = some (.iface 155 (.pointer (some a0))) := by simpa using World.var?_cell hg0 hv0 0
  have hW : W.cell? ⟨1, 0, none⟩ = some (.iface 155 (.pointer (some a1))) := by simpa using World.var?_cell hg1 hv1 0
  refine ⟨a0, a1, hL, hW, hT, ?_, ⟨c0, t0, hb0⟩, ⟨c1, t1, hb1⟩, World.block_lt_of_cell? W _ hL, World.block_lt_of_cell? W _ hW, World.block_lt_of_cell? W _ hT⟩
  rintro rfl
  simp [MemPlace.row] at hnd
end Go.Proofs.YtoafcpbpnkfhoaaGreatDoor.Lex
