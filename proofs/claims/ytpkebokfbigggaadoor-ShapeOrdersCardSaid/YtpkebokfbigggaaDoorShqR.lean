/-
  What the rows' condition (the table of math/bits reads as the program lays it) gives the walks; the heap that the program's own start leaves meets it.
-/
import Derived.Test.YtpkebokfbigggaaDoorShpX
import Derived.Test.YtpkebokfbigggaaDoorRows
import Derived.ProofKit
import Derived.LaidMore
import Derived.LaidLaws
import Derived.LaidHandle
import Derived.OpenShut
import Derived.Stop.Joined
import Derived.ChangeSame
import Derived.JoinedOf
namespace Go.Proofs.YtpkebokfbigggaaDoor.Shp
open Go.ChangeShapes Go.WideShapes Go.ChangeAt Go.RowKit

abbrev laid1 : List (String × DataW Unit) := [("math/bits.deBruijn64tab", Rows.laid_math_bits_deBruijn64tab)]
theorem own : ownKnob Tryd.prog.godebug = none := by kernel_rfl
theorem gTab : Tryd.prog.globalNamed "math/bits.deBruijn64tab" = some 0 := by kernel_rfl
theorem tyTab : (Tryd.prog.globals[0]?).map (·.type) = some 62 := by kernel_rfl
theorem cTab1 : Tryd.prog.cellsOf 5 = 1 := by kernel_rfl
theorem laid_list : (Rows.laid_math_bits_deBruijn64tab : DataW Unit) = .agg ((List.range 64).map fun j => .lit (.int .u8 (Lib.deBruijn64tab.getD j 0 : Nat))) := rfl
theorem door_met (os : Os) (args : Array Value) : laidMetH Tryd.prog laid1 ((World.doorLaid Tryd.prog 400 os).forCall (fun _ _ => 0) ⟨#[], args, []⟩).memory :=
  laidMetH_of_parts3 (fuel := 8) (laidMet_of_run' 8 (by kernel_rfl) (by kernel_rfl)) (by kernel_rfl) (by kernel_rfl)
theorem of_laid {W : World} (h : laidMetH Tryd.prog laid1 W) : Tab W := by
  rw [MakeChecks.laidMetH_plain _ _ _ (by kernel_rfl)] at h
  obtain ⟨ps, ⟨g0, t0, cs0, f0, p0, q0, hg0, ht0, hv0, hd0, _, _⟩, _, _⟩ := h
  obtain rfl := Option.some.inj (gTab.symm.trans hg0)
  obtain rfl := Option.some.inj (tyTab.symm.trans ht0)
  obtain ⟨xs, m1, rfl, hx1, hlen, hn3, hel⟩ := DataW.trod_array Tryd.underlying62 hd0
  intro j hj
  have hj0 := hel j hj
  have hjx : j < xs.length := by omega
  rw [List.getElem?_eq_getElem hjx] at hj0
  obtain ⟨n, e1, e2, _⟩ := DataW.trod_int Tryd.underlying5 hj0
  rw [cTab1] at e1
  have hx2 : xs.map (·.1) = (List.range 64).map fun j => .lit (.int .u8 (Lib.deBruijn64tab.getD j 0 : Nat)) := by
    have := (Prod.mk.inj hx1).1
    rw [laid_list] at this
    injection this with this
    exact this.symm
  have hx3 : (xs.map (·.1))[j]'(by rw [List.length_map]; exact hjx) = .lit (.int .u8 (Lib.deBruijn64tab.getD j 0 : Nat)) := by
    simp only [hx2, List.getElem_map, List.getElem_range]
  rw [List.getElem_map, e2] at hx3
  injection hx3 with hx3
  injection hx3 with _ hx3
  subst hx3
  have := World.var?_cell hg0 hv0 j
  rw [this]
  rw [Nat.mul_one] at e1
  have e3 : (cs0.toList.drop j)[0]? = some (.int .u8 (Lib.deBruijn64tab.getD j 0 : Nat)) := by
    have e4 : ((cs0.toList.drop j).take 1)[0]? = some (.int .u8 (Lib.deBruijn64tab.getD j 0 : Nat)) := by rw [e1]; rfl
    rwa [List.getElem?_take, if_pos (by decide)] at e4
  rw [List.getElem?_drop, Nat.add_zero] at e3
  simpa using e3
end Go.Proofs.YtpkebokfbigggaaDoor.Shp
