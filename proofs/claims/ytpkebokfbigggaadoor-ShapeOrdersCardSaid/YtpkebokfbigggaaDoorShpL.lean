/-
  The document's Order and Reducible (package calliperref10).
-/
import Derived.Test.YtpkebokfbigggaaDoorShpK
namespace Go.Proofs.YtpkebokfbigggaaDoor.Shp
open Go.RowKit
open Classical

section
variable {g : Gr} {f : Int}
theorem red_left : redB g f = decide (cntR g f - (ordL g f).length = 0) := by
  have := ordL_le (g := g) (f := f)
  unfold redB
  rw [decide_eq_decide]
  omega
theorem orderL_yes (h : redB g f = true) : orderL g f = (ordL g f).map Int.ofNat := by unfold orderL; rw [if_pos h]
theorem orderL_no (h : redB g f = false) : orderL g f = [] := by unfold orderL; rw [h]; rfl
theorem map_vn (l : List Nat) : (l.map Int.ofNat).map vi = l.map vn := by rw [List.map_map]; rfl
end
set_option maxRecDepth 100000 in
set_option maxHeartbeats 4000000 in
theorem order_any (w : World) (v : Value) (g : Gr) (f : Int) (hg : GraphAt w v g) (hl : g.length ≤ 2000) :
    Calls Tryd.prog 22 #[v, .int .i64 f] w fun e w' => ∃ u, e = .returned u ∧ Hid (Kept w w' ∧ w'.ownsRow w.heap.size 3 1 u (orderL g f).length ((orderL g f).map vi)) := by
  have HC := Lib.hid (order_in w v g f hg hl)
  obtain ⟨ga, gc, rfl⟩ := hg.form
  have hcl : cntR g f ≤ 2000 := Nat.le_trans (cntU_le (g := g) (f := f) g.length) hl
  have HR := Lib.hid (red_left (g := g) (f := f))
  have hle : cntR g f - (ordL g f).length ≤ 2000 := by omega
  clear hg
  generalize hlf : cntR g f - (ordL g f).length = lf at *
  clear hlf
  by_cases h0 : lf = 0
  · have H1 := Lib.hid (orderL_yes (g := g) (f := f) (by rw [HR.out]; exact decide_eq_true h0))
    subst h0
    go_enter Tryd.func22, Tryd.ntmps22
    go_wp2_with (go_at_call 34; refine (HC.out).mono ?_; rintro e w1 ⟨u, rfl, H⟩)
    go_ret
    exact ⟨_, rfl, by rw [H1.out, map_vn, List.length_map]; exact H⟩
  · have H1 := Lib.hid (orderL_no (g := g) (f := f) (by rw [HR.out]; exact decide_eq_false h0))
    have hp : 0 < (lf : Int) := by omega
    clear h0
    go_enter Tryd.func22, Tryd.ntmps22
    go_wp2_with (go_at_call 34; refine (HC.out).mono ?_; rintro e w1 ⟨u, rfl, H⟩)
    go_ret
    exact ⟨_, rfl, by rw [H1.out]; exact Lib.hid ⟨H.out.1, World.ownsRow_nil _ _ _ _⟩⟩
set_option maxRecDepth 100000 in
set_option maxHeartbeats 4000000 in
theorem reducible_any (w : World) (v : Value) (g : Gr) (f : Int) (hg : GraphAt w v g) (hl : g.length ≤ 2000) :
    Calls Tryd.prog 20 #[v, .int .i64 f] w fun e w' => e = .returned (.bool (redB g f)) ∧ Hid (Kept w w') := by
  have HC := Lib.hid (order_in w v g f hg hl)
  obtain ⟨ga, gc, rfl⟩ := hg.form
  have hcl : cntR g f ≤ 2000 := Nat.le_trans (cntU_le (g := g) (f := f) g.length) hl
  rw [red_left (g := g) (f := f)]
  have hle : cntR g f - (ordL g f).length ≤ 2000 := by omega
  clear hg
  generalize hlf : cntR g f - (ordL g f).length = lf at *
  clear hlf
  by_cases h0 : lf = 0
  · subst h0
    have hd : decide ((g.length : Int) ≤ 2000) = true := decide_eq_true (by omega)
    go_enter Tryd.func20, Tryd.ntmps20
    go_wp2_with (go_at_call 34; refine (HC.out).mono ?_; rintro e w1 ⟨u, rfl, H⟩)
    go_ret
    exact ⟨rfl, Lib.hid H.out.1⟩
  · rw [decide_eq_false h0]
    have hd : decide ((g.length : Int) ≤ 2000) = true := decide_eq_true (by omega)
    have hp : ((lf : Int) == 0) = false := by rw [beq_eq_false_iff_ne]; omega
    clear h0
    go_enter Tryd.func20, Tryd.ntmps20
    go_wp2_with (go_at_call 34; refine (HC.out).mono ?_; rintro e w1 ⟨u, rfl, H⟩)
    go_ret
    exact ⟨rfl, Lib.hid H.out.1⟩
end Go.Proofs.YtpkebokfbigggaaDoor.Shp
