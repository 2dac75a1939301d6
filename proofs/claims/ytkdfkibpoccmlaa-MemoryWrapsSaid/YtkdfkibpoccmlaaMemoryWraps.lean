/-
  Proved: the statement 'MemoryWrapsSaid' of the seat: for every input that law returns true, and each argument reads afterwards as it read before. No condition of ours.
  The frame is the guide's shell; the walk and the contracts that it uses are ours.
-/
import Derived.Test.YtkdfkibpoccmlaaRows
import Derived.WalkKit
import Derived.ProofKit
import Derived.OpenShut
import Derived.Test.YtkdfkibpoccmlaaBase
import Derived.Test.YtkdfkibpoccmlaaMemE
import Derived.ShutString
namespace Go.Proofs.Ytkdfkibpoccmlaa.memoryWraps
open Go.ChangeShapes Go.WideShapes Go.ChangeAt Go.RowKit
open Go.ChangeMaps (open_string shut_string)
set_option linter.unusedVariables false      -- a walk need not use every 'w<i>' (that an integer argument fits its kind)

theorem own : ownKnob Try.prog.godebug = none := by kernel_rfl

open Mem
open Typ (wrapF rwrap_any)

/-! ### STEP 1: THE WALK: the Go text returns true. 'Kept w w'': nothing that was there has changed. Part the cases AHEAD of 'go_enter' where a test parts the walk; take each callee by a contract of your own. -/
set_option maxRecDepth 100000 in
set_option maxHeartbeats 4000000 in
theorem walk (a0 : Int) (a1 : Int) (w0 : (Lit.int .u8 a0).wf = true) (w1 : (Lit.int .i32 a1).wf = true) (w : World) :
    Calls Try.prog 5 #[.int .u8 a0, .int .i32 a1] w fun e w' => e = .returned (.bool true) ∧ Kept w w' := by
  have hb0 := bounds_u8 w0
  have hb1 := bounds_i32 w1
  obtain ⟨k, hk, hk1, hk6⟩ : ∃ k : Int, 1 + a0 % 6 = k ∧ 1 ≤ k ∧ k ≤ 6 := ⟨_, rfl, by omega, by omega⟩
  have HA := add_any (new_at w w.heap.size (Nat.le_refl _)) (by simp) (by simp) k 1 (by omega)
  have HK := Lib.hid (new_kept w)
  go_enter Try.func5, Try.ntmps5
  go_wp2_with (first | (go_at_call 8; refine (new_any _).mono ?_; rintro e w' ⟨rfl, rfl⟩) | (go_at_call 9; refine HA.mono ?_; rintro e w1 ⟨rfl, H1⟩) | (go_at_call 11; obtain ⟨v1, g1, hg1, hM1, hC1, hV1⟩ := H1.out; have HM1 := Lib.hid hM1; have HC1 := Lib.hid hC1; have HG1 := Lib.hid hg1; clear hg1 hM1 hC1 hV1; refine (set_any HM1.out _ _ _).mono ?_; rintro e w2 ⟨rfl, hM2, hC2⟩; have HM2 := Lib.hid hM2; have HC2 := Lib.hid hC2; clear hM2 hC2) | (go_at_call 13; refine (get_any HM2.out _ _).mono ?_; rintro e w3 ⟨rfl, rfl⟩) | (go_at_call 22; refine (rwrap_any _ _ _).mono ?_; rintro e w' ⟨rfl, rfl⟩) | (go_at_call 7; refine (awake_any _).mono ?_; rintro e w4 ⟨rfl, H4⟩))
  go_ret
  have k1 : Kept w w1 := kept_new HK.out HC1.out (fun k hk h => by simp [Value.ownBlock] at h; omega)
  have k2 : Kept w w2 := kept_new k1 HC2.out (fun k hk h => by
    obtain ⟨x, hx, rfl⟩ := h
    have := HG1.out
    simp at hx this; subst hx; simp at hk; omega)
  exact ⟨rfl, k2.trans H4.out⟩

/-! ### THE ROW's STEP: WRITTEN OUT: LEAVE IT -/
set_option maxRecDepth 100000 in
theorem lifted (os : Os) (started : os.Started) (H : Type) (enc : TypeId × Value → H) :
    ReturnsInHanded {} Try.checked os 5 .any (Rows.memoryWrapsSpec.pre6 enc Try.prog Try.f5 Rows.memoryWrapsRow.domain false) (Rows.memoryWrapsSpec.post enc Try.prog Try.f5 false true false false) := by
  refine returnsInHanded_of_change (C := Try.checked) own started (by kernel_rfl) Try.func5
    (ChangeSpec.witness6 (enc := enc) (C := Try.checked) false ⟨#[], #[.int .u8 0, .int .i32 0], []⟩ 8 (by kernel_rfl) (by kernel_rfl) (by kernel_rfl) (by kernel_rfl)) ?_
  intro W base args ds gs before hval0 hW hcnd _
  have hval : ∀ (j : Nat) t v, Try.f5.params[j]? = some t → args[j]? = some v → Value.okWide Try.prog W .any base t v := hval0
  have hW' := hW
  obtain ⟨p, q, hA0, hV, rfl, hfz, hnd⟩ := hW
  have hA : DataW.TrodAll enc Try.prog W 0 (fun _ => true) true Try.f5.params.toList args.toList ds p := hA0
  rw [Try.params5] at hA hval
  obtain ⟨v0, vs0, d0, ds0, p0, q0, hargs, rfl, rfl, h0, r0⟩ := trodAll_cons hA
  obtain ⟨v1, vs1, d1, ds1, p1, q1, rfl, rfl, rfl, h1, r1⟩ := trodAll_cons r0
  obtain ⟨rfl, rfl, rfl⟩ := trodAll_nil r1
  obtain rfl : args = #[v0, v1] := by cases args; simp_all
  obtain ⟨rfl, rfl⟩ := trodVars_none hV
  obtain ⟨a0, rfl, rfl, rfl, w0⟩ := open_int Try.underlying5 (hval 0 5 v0 rfl rfl) h0
  obtain ⟨a1, rfl, rfl, rfl, w1⟩ := open_int Try.underlying21 (hval 1 21 v1 rfl rfl) h1
  clear hA0 hval0
  simp only [List.append_nil] at hW'
  refine (walk a0 a1 w0 w1 W).mono fun e W' ⟨he, hg⟩ => ?_
  subst he
  exact ⟨_, rfl, post_kept hW' (fun _ _ _ => (trodAll_cons_mk (shut_bool Try.underlying4 _) trodAll_mk0)) (fun sp => (trodAll_cons_mk (shut_int Try.underlying5 w0) (trodAll_cons_mk (shut_int Try.underlying21 w1) trodAll_mk0))) (fun _ => rfl) hg⟩

theorem over : Rows.memoryWrapsRow.holds Try.pinned (OpenSpec.ofChange Rows.memoryWrapsSpec) :=
  OpenClaim.holds_of_wide 5 Try.f5 rfl rfl rfl rfl rfl rfl rfl ⟨rfl, rfl, rfl, rfl, rfl⟩ rfl rfl rfl rfl rfl (by kernel_rfl) Try.func5 (by kernel_rfl)
    (of_decide_eq_true (by kernel_rfl)) (by unfold Func.isWrapper; first | (rw [if_pos (by decide +kernel)]; kernel_rfl) | (rw [if_neg (by decide +kernel)]; exact ⟨rfl, rfl⟩))
    (fun os started H enc _ => lifted os started H enc)

/-- ████ THE STATEMENT ████ -/
theorem proved : Rows.MemoryWrapsSaid :=
  over
#print axioms proved
end Go.Proofs.Ytkdfkibpoccmlaa.memoryWraps
