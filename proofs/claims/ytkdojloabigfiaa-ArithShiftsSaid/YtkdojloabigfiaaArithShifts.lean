/-
  Proved: the statement 'ArithShiftsSaid' of the seat: for every input that law returns true, and each argument reads afterwards as it read before. No condition of ours.
  The frame is the guide's shell; the walk and the contracts that it uses are ours.
-/
import Derived.Test.YtkdojloabigfiaaRows
import Derived.WalkKit
import Derived.ProofKit
import Derived.OpenShut
import Derived.Test.YtkdojloabigfiaaBase
import Derived.Test.YtkdojloabigfiaaAriC
import Derived.Test.YtkdojloabigfiaaAriD
import Derived.ShutString
namespace Go.Proofs.Ytkdojloabigfiaa.arithShifts
open Go.ChangeShapes Go.WideShapes Go.ChangeAt Go.RowKit
open Go.ChangeMaps (open_string shut_string)
set_option linter.unusedVariables false      -- a walk need not use every 'w<i>' (that an integer argument fits its kind)

theorem own : ownKnob Try.prog.godebug = none := by kernel_rfl

open Typ

/-! ### STEP 1: THE WALK: the Go text returns true. 'Kept w w'': nothing that was there has changed. Part the cases AHEAD of 'go_enter' where a test parts the walk; take each callee by a contract of your own. -/
set_option maxRecDepth 100000 in
set_option maxHeartbeats 4000000 in
theorem walk (a0 : Int) (a1 : Int) (a2 : Int) (w0 : (Lit.int .i32 a0).wf = true) (w1 : (Lit.int .u32 a1).wf = true) (w2 : (Lit.int .i8 a2).wf = true) (w : World) :
    Calls Try.prog 7 #[.int .i32 a0, .int .u32 a1, .int .i8 a2] w fun e w' => e = .returned (.bool true) ∧ Kept w w' := by
  have hx := bounds_i32 w0
  have hc := bounds_u32 w1
  have hn := bounds_i8 w2
  by_cases h0 : a2 < 0 ∨ 31 < a2
  · have e1 := sh_out (k := 16) (t := 5) (by omega) (by omega) (in5' hx) h0
    have e2 := sh_out (k := 17) (t := 5) (by omega) (by omega) (in5' hx) h0
    have e3 := sh_out (k := 16) (t := 6) (by omega) (by omega) (in6' hc) h0
    have e4 := sh_out (k := 17) (t := 6) (by omega) (by omega) (in6' hc) h0
    rcases h0 with h0 | h0
    all_goals
      go_enter Try.func7, Try.ntmps7
      go_wp2_with (first | (go_at_call 9; refine (do_any _ _ _ _ _).mono ?_; rintro e w' ⟨rfl, rfl⟩) | (go_at_call 13; refine (awake_any _).mono ?_; rintro e w' ⟨rfl, rfl⟩))
      go_ret
      exact ⟨rfl, by repeat (first | exact Kept.refl _ | apply Kept.drew | apply Kept.alloc)⟩
  have h1 : 0 ≤ a2 ∧ a2 ≤ 31 := by omega
  clear h0
  obtain ⟨e1, e2⟩ := shr5 hx h1
  obtain ⟨e3, e4⟩ := shl6 hc h1
  obtain ⟨e5, e6⟩ := shr6 hc h1
  have hl := shl5 hx h1
  have hp := pow_31 (n := a2.toNat) (by omega)
  have hb := shl_bd (a := a0) (n := a2.toNat) (by omega) (by omega)
  have hb2 := shl_bd (a := a1) (n := a2.toNat) (by omega) (by omega)
  have hr := shr_bd (m := -2147483648) (n' := 2147483647) (n := a2.toNat) (by omega) (by omega) hx (by omega)
  have hr2 := shr_bd (m := 0) (n' := 4294967295) (n := a2.toNat) (by omega) (by omega) hc (by omega)
  obtain ⟨p, hP⟩ : ∃ p : Int, 2 ^ a2.toNat = p := ⟨_, rfl⟩
  rw [hP] at e1 e3 e5 hl hp hb hb2 hr hr2
  obtain ⟨m, hM⟩ : ∃ m : Int, a0 * p = m := ⟨_, rfl⟩
  obtain ⟨m2, hM2⟩ : ∃ m : Int, a1 * p = m := ⟨_, rfl⟩
  obtain ⟨d, hD⟩ : ∃ m : Int, a0 / p = m := ⟨_, rfl⟩
  obtain ⟨d2, hD2⟩ : ∃ m : Int, a1 / p = m := ⟨_, rfl⟩
  rw [hM] at hl hb
  rw [hM2] at e3 hb2
  rw [hD] at e1 hr
  rw [hD2] at e5 hr2
  rcases (show (0 ≤ a0 ∧ m < 2147483648) ∨ (0 ≤ a0 ∧ ¬ m < 2147483648) ∨ a0 < 0 by omega) with hf | hf | hf
  · obtain ⟨f1, f2⟩ := hl.1 hf
    clear hl
    go_enter Try.func7, Try.ntmps7
    simp only [List.append_eq, List.cons_append, List.nil_append]
    go_wp2_with (first | (go_at_call 9; refine (do_any _ _ _ _ _).mono ?_; rintro e w' ⟨rfl, rfl⟩) | (go_at_call 13; refine (awake_any _).mono ?_; rintro e w' ⟨rfl, rfl⟩))
    go_ret
    exact ⟨rfl, by repeat (first | exact Kept.refl _ | apply Kept.drew | apply Kept.alloc)⟩
  · obtain ⟨f1, f2⟩ := hl.2 (by omega)
    clear hl
    go_enter Try.func7, Try.ntmps7
    simp only [List.append_eq, List.cons_append, List.nil_append]
    go_wp2_with (first | (go_at_call 9; refine (do_any _ _ _ _ _).mono ?_; rintro e w' ⟨rfl, rfl⟩) | (go_at_call 13; refine (awake_any _).mono ?_; rintro e w' ⟨rfl, rfl⟩))
    go_ret
    exact ⟨rfl, by repeat (first | exact Kept.refl _ | apply Kept.drew | apply Kept.alloc)⟩
  · obtain ⟨f1, f2⟩ := hl.2 (by omega)
    clear hl
    go_enter Try.func7, Try.ntmps7
    simp only [List.append_eq, List.cons_append, List.nil_append]
    go_wp2_with (first | (go_at_call 9; refine (do_any _ _ _ _ _).mono ?_; rintro e w' ⟨rfl, rfl⟩) | (go_at_call 13; refine (awake_any _).mono ?_; rintro e w' ⟨rfl, rfl⟩))
    go_ret
    exact ⟨rfl, by repeat (first | exact Kept.refl _ | apply Kept.drew | apply Kept.alloc)⟩

/-! ### THE ROW's STEP: WRITTEN OUT: LEAVE IT -/
set_option maxRecDepth 100000 in
theorem lifted (os : Os) (started : os.Started) (H : Type) (enc : TypeId × Value → H) :
    ReturnsInHanded {} Try.checked os 7 .any (Rows.arithShiftsSpec.pre6 enc Try.prog Try.f7 Rows.arithShiftsRow.domain false) (Rows.arithShiftsSpec.post enc Try.prog Try.f7 false true false false) := by
  refine returnsInHanded_of_change (C := Try.checked) own started (by kernel_rfl) Try.func7
    (ChangeSpec.witness6 (enc := enc) (C := Try.checked) false ⟨#[], #[.int .i32 0, .int .u32 0, .int .i8 0], []⟩ 8 (by kernel_rfl) (by kernel_rfl) (by kernel_rfl) (by kernel_rfl)) ?_
  intro W base args ds gs before hval0 hW hcnd _
  have hval : ∀ (j : Nat) t v, Try.f7.params[j]? = some t → args[j]? = some v → Value.okWide Try.prog W .any base t v := hval0
  have hW' := hW
  obtain ⟨p, q, hA0, hV, rfl, hfz, hnd⟩ := hW
  have hA : DataW.TrodAll enc Try.prog W 0 (fun _ => true) true Try.f7.params.toList args.toList ds p := hA0
  rw [Try.params7] at hA hval
  obtain ⟨v0, vs0, d0, ds0, p0, q0, hargs, rfl, rfl, h0, r0⟩ := trodAll_cons hA
  obtain ⟨v1, vs1, d1, ds1, p1, q1, rfl, rfl, rfl, h1, r1⟩ := trodAll_cons r0
  obtain ⟨v2, vs2, d2, ds2, p2, q2, rfl, rfl, rfl, h2, r2⟩ := trodAll_cons r1
  obtain ⟨rfl, rfl, rfl⟩ := trodAll_nil r2
  obtain rfl : args = #[v0, v1, v2] := by cases args; simp_all
  obtain ⟨rfl, rfl⟩ := trodVars_none hV
  obtain ⟨a0, rfl, rfl, rfl, w0⟩ := open_int Try.underlying21 (hval 0 21 v0 rfl rfl) h0
  obtain ⟨a1, rfl, rfl, rfl, w1⟩ := open_int Try.underlying27 (hval 1 27 v1 rfl rfl) h1
  obtain ⟨a2, rfl, rfl, rfl, w2⟩ := open_int Try.underlying34 (hval 2 34 v2 rfl rfl) h2
  clear hA0 hval0
  simp only [List.append_nil] at hW'
  refine (walk a0 a1 a2 w0 w1 w2 W).mono fun e W' ⟨he, hg⟩ => ?_
  subst he
  exact ⟨_, rfl, post_kept hW' (fun _ _ _ => (trodAll_cons_mk (shut_bool Try.underlying4 _) trodAll_mk0)) (fun sp => (trodAll_cons_mk (shut_int Try.underlying21 w0) (trodAll_cons_mk (shut_int Try.underlying27 w1) (trodAll_cons_mk (shut_int Try.underlying34 w2) trodAll_mk0)))) (fun _ => rfl) hg⟩

theorem over : Rows.arithShiftsRow.holds Try.pinned (OpenSpec.ofChange Rows.arithShiftsSpec) :=
  OpenClaim.holds_of_wide 7 Try.f7 rfl rfl rfl rfl rfl rfl rfl ⟨rfl, rfl, rfl, rfl, rfl⟩ rfl rfl rfl rfl rfl (by kernel_rfl) Try.func7 (by kernel_rfl)
    (of_decide_eq_true (by kernel_rfl)) (by unfold Func.isWrapper; first | (rw [if_pos (by decide +kernel)]; kernel_rfl) | (rw [if_neg (by decide +kernel)]; exact ⟨rfl, rfl⟩))
    (fun os started H enc _ => lifted os started H enc)

/-- ████ THE STATEMENT ████ -/
theorem proved : Rows.ArithShiftsSaid :=
  over
#print axioms proved
end Go.Proofs.Ytkdojloabigfiaa.arithShifts
