/-
  Proved: the statement 'ArithSumsSaid' of the seat: for every input that law returns true, and each argument reads afterwards as it read before. No condition of ours.
  The frame is the guide's shell; the walk and the contracts that it uses are ours.
-/
import Derived.Test.YtkdojloabigfiaaRows
import Derived.WalkKit
import Derived.ProofKit
import Derived.OpenShut
import Derived.Test.YtkdojloabigfiaaBase
import Derived.Test.YtkdojloabigfiaaAriC
import Derived.Test.YtkdojloabigfiaaAriD
import Derived.Deep.QuietTactic
import Derived.BigQuiet
import Derived.ShutString
namespace Go.Proofs.Ytkdojloabigfiaa.arithSums
open Go.ChangeShapes Go.WideShapes Go.ChangeAt Go.RowKit
open Go.ChangeMaps (open_string shut_string)
set_option linter.unusedVariables false      -- a walk need not use every 'w<i>' (that an integer argument fits its kind)

theorem own : ownKnob Try.prog.godebug = none := by kernel_rfl

open Typ

/-! ### STEP 1: THE WALK: the Go text returns true. 'Kept w w'': nothing that was there has changed. Part the cases AHEAD of 'go_enter' where a test parts the walk; take each callee by a contract of your own. -/
set_option maxRecDepth 100000 in
set_option maxHeartbeats 4000000 in
theorem walk (a0 : Int) (a1 : Int) (a2 : Int) (a3 : Int) (w0 : (Lit.int .i32 a0).wf = true) (w1 : (Lit.int .i32 a1).wf = true) (w2 : (Lit.int .u32 a2).wf = true) (w3 : (Lit.int .u32 a3).wf = true) (w : World) :
    Calls Try.prog 5 #[.int .i32 a0, .int .i32 a1, .int .u32 a2, .int .u32 a3] w fun e w' => e = .returned (.bool true) ∧ Kept w w' := by
  have hx := bounds_i32 w0
  have hy := bounds_i32 w1
  have hc := bounds_u32 w2
  have hd := bounds_u32 w3
  have hm := mul_32 hx hy
  go_enter Try.func5, Try.ntmps5
  go_wp2
  go_loopw [14] (fun i wx => ∃ k n : Nat, k ≤ 3 ∧ i = .int .i64 k ∧ wx = (((w.alloc (.cells #[.int .i64 (a0 + a1), .int .i64 (a0 - a1), .int .i64 (a0 * a1)] 3)).alloc (.cells #[.int .u32 ((a2 + a3) % 4294967296), .int .u32 ((a2 - a3) % 4294967296), .int .u32 (a2 * a3 % 4294967296)] 27)).alloc (.cells #[.int .i64 8, .int .i64 9, .int .i64 10] 3)).drewN n) (fun i _ => 3 - (intOf i).toNat)
  case atStart => exact ⟨0, 0, by omega, rfl, rfl⟩
  case round =>
    obtain ⟨k, n, hk, rfl, rfl⟩ := hrel
    rcases (show k = 0 ∨ k = 1 ∨ k = 2 ∨ k = 3 by omega) with rfl | rfl | rfl | rfl
    · have hA := low5 (k := 8) (a := a0) (b := a1) (v := a0 + a1) (by omega) (by omega) hx hy (by unfold exV; simp)
      obtain ⟨e1, e2⟩ := low6 (k := 8) (a := a2) (b := a3) (v := (a2 + a3) % 4294967296) (by omega) (by omega) hc hd (by unfold exV; simp; exact wrap6' _)
      rcases (show (-2147483648 ≤ a0 + a1 ∧ a0 + a1 ≤ 2147483647) ∨ a0 + a1 < -2147483648 ∨ 2147483647 < a0 + a1 by omega) with g | g | g
      case' inl => obtain ⟨e3, e4⟩ := hA.1 g
      case' inr.inl => obtain ⟨e3, e4⟩ := hA.2 (by omega)
      case' inr.inr => obtain ⟨e3, e4⟩ := hA.2 (by omega)
      all_goals
        clear hA
        go_wp2_with (first | (go_at_call 9; refine (do_any _ _ _ _ _).mono ?_; rintro e w' ⟨rfl, rfl⟩) | (go_at_call 13; refine (awake_any _).mono ?_; rintro e w' ⟨rfl, rfl⟩))
        exact ⟨⟨1, n, by omega, rfl, rfl⟩, by simp [intOf]⟩
    · have hA := low5 (k := 9) (a := a0) (b := a1) (v := a0 - a1) (by omega) (by omega) hx hy (by unfold exV; simp)
      obtain ⟨e1, e2⟩ := low6 (k := 9) (a := a2) (b := a3) (v := (a2 - a3) % 4294967296) (by omega) (by omega) hc hd (by unfold exV; simp; exact wrap6' _)
      rcases (show (-2147483648 ≤ a0 - a1 ∧ a0 - a1 ≤ 2147483647) ∨ a0 - a1 < -2147483648 ∨ 2147483647 < a0 - a1 by omega) with g | g | g
      case' inl => obtain ⟨e3, e4⟩ := hA.1 g
      case' inr.inl => obtain ⟨e3, e4⟩ := hA.2 (by omega)
      case' inr.inr => obtain ⟨e3, e4⟩ := hA.2 (by omega)
      all_goals
        clear hA
        go_wp2_with (first | (go_at_call 9; refine (do_any _ _ _ _ _).mono ?_; rintro e w' ⟨rfl, rfl⟩) | (go_at_call 13; refine (awake_any _).mono ?_; rintro e w' ⟨rfl, rfl⟩))
        exact ⟨⟨2, n, by omega, rfl, rfl⟩, by simp [intOf]⟩
    · have hA := low5 (k := 10) (a := a0) (b := a1) (v := a0 * a1) (by omega) (by omega) hx hy (by unfold exV; simp; exact wrap64_in (by omega))
      obtain ⟨e1, e2⟩ := low6 (k := 10) (a := a2) (b := a3) (v := (a2 * a3) % 4294967296) (by omega) (by omega) hc hd (by unfold exV; simp; exact mod_64_32 _)
      rcases (show (-2147483648 ≤ a0 * a1 ∧ a0 * a1 ≤ 2147483647) ∨ a0 * a1 < -2147483648 ∨ 2147483647 < a0 * a1 by omega) with g | g | g
      case' inl => obtain ⟨e3, e4⟩ := hA.1 g
      case' inr.inl => obtain ⟨e3, e4⟩ := hA.2 (by omega)
      case' inr.inr => obtain ⟨e3, e4⟩ := hA.2 (by omega)
      all_goals
        clear hA
        go_wp2_with (first | (go_at_call 9; refine (do_any _ _ _ _ _).mono ?_; rintro e w' ⟨rfl, rfl⟩) | (go_at_call 13; refine (awake_any _).mono ?_; rintro e w' ⟨rfl, rfl⟩))
        exact ⟨⟨3, n, by omega, rfl, rfl⟩, by simp [intOf]⟩
    · have hA := low5 (k := 6) (a := a0) (b := 0) (v := -a0) (by omega) (by omega) hx (by omega) (by unfold exV; simp)
      by_cases g : a0 = -2147483648
      · obtain ⟨e1, e2⟩ := hA.2 (by omega)
        have g1 : (a0 != -2147483648) = false := by rw [g]; rfl
        clear hA g
        go_wp2_with (first | (go_at_call 9; refine (do_any _ _ _ _ _).mono ?_; rintro e w' ⟨rfl, rfl⟩) | (go_at_call 13; refine (awake_any _).mono ?_; rintro e w' ⟨rfl, rfl⟩))
        go_ret
        exact ⟨rfl, by repeat (first | exact Kept.refl _ | apply Kept.drewN | apply Kept.drew | apply Kept.alloc)⟩
      · obtain ⟨e1, e2⟩ := hA.1 (by omega)
        have g1 : (a0 != -2147483648) = true := by simpa using g
        clear hA
        go_wp2_with (first | (go_at_call 9; refine (do_any _ _ _ _ _).mono ?_; rintro e w' ⟨rfl, rfl⟩) | (go_at_call 13; refine (awake_any _).mono ?_; rintro e w' ⟨rfl, rfl⟩))
        go_ret
        exact ⟨rfl, by repeat (first | exact Kept.refl _ | apply Kept.drewN | apply Kept.drew | apply Kept.alloc)⟩

/-! ### THE ROW's STEP: WRITTEN OUT: LEAVE IT -/
set_option maxRecDepth 100000 in
theorem lifted (os : Os) (started : os.Started) (H : Type) (enc : TypeId × Value → H) :
    ReturnsInHanded {} Try.checked os 5 .any (Rows.arithSumsSpec.pre6 enc Try.prog Try.f5 Rows.arithSumsRow.domain false) (Rows.arithSumsSpec.post enc Try.prog Try.f5 false true false false) := by
  refine returnsInHanded_of_change (C := Try.checked) own started (by kernel_rfl) Try.func5
    (ChangeSpec.witness6 (enc := enc) (C := Try.checked) false ⟨#[], #[.int .i32 0, .int .i32 0, .int .u32 0, .int .u32 0], []⟩ 8 (by kernel_rfl) (by kernel_rfl) (by kernel_rfl) (by kernel_rfl)) ?_
  intro W base args ds gs before hval0 hW hcnd _
  have hval : ∀ (j : Nat) t v, Try.f5.params[j]? = some t → args[j]? = some v → Value.okWide Try.prog W .any base t v := hval0
  have hW' := hW
  obtain ⟨p, q, hA0, hV, rfl, hfz, hnd⟩ := hW
  have hA : DataW.TrodAll enc Try.prog W 0 (fun _ => true) true Try.f5.params.toList args.toList ds p := hA0
  rw [Try.params5] at hA hval
  obtain ⟨v0, vs0, d0, ds0, p0, q0, hargs, rfl, rfl, h0, r0⟩ := trodAll_cons hA
  obtain ⟨v1, vs1, d1, ds1, p1, q1, rfl, rfl, rfl, h1, r1⟩ := trodAll_cons r0
  obtain ⟨v2, vs2, d2, ds2, p2, q2, rfl, rfl, rfl, h2, r2⟩ := trodAll_cons r1
  obtain ⟨v3, vs3, d3, ds3, p3, q3, rfl, rfl, rfl, h3, r3⟩ := trodAll_cons r2
  obtain ⟨rfl, rfl, rfl⟩ := trodAll_nil r3
  obtain rfl : args = #[v0, v1, v2, v3] := by cases args; simp_all
  obtain ⟨rfl, rfl⟩ := trodVars_none hV
  obtain ⟨a0, rfl, rfl, rfl, w0⟩ := open_int Try.underlying21 (hval 0 21 v0 rfl rfl) h0
  obtain ⟨a1, rfl, rfl, rfl, w1⟩ := open_int Try.underlying21 (hval 1 21 v1 rfl rfl) h1
  obtain ⟨a2, rfl, rfl, rfl, w2⟩ := open_int Try.underlying27 (hval 2 27 v2 rfl rfl) h2
  obtain ⟨a3, rfl, rfl, rfl, w3⟩ := open_int Try.underlying27 (hval 3 27 v3 rfl rfl) h3
  clear hA0 hval0
  simp only [List.append_nil] at hW'
  refine (walk a0 a1 a2 a3 w0 w1 w2 w3 W).mono fun e W' ⟨he, hg⟩ => ?_
  subst he
  exact ⟨_, rfl, post_kept hW' (fun _ _ _ => (trodAll_cons_mk (shut_bool Try.underlying4 _) trodAll_mk0)) (fun sp => (trodAll_cons_mk (shut_int Try.underlying21 w0) (trodAll_cons_mk (shut_int Try.underlying21 w1) (trodAll_cons_mk (shut_int Try.underlying27 w2) (trodAll_cons_mk (shut_int Try.underlying27 w3) trodAll_mk0))))) (fun _ => rfl) hg⟩

theorem over : Rows.arithSumsRow.holds Try.pinned (OpenSpec.ofChange Rows.arithSumsSpec) :=
  OpenClaim.holds_of_wide 5 Try.f5 rfl rfl rfl rfl rfl rfl rfl ⟨rfl, rfl, rfl, rfl, rfl⟩ rfl rfl rfl rfl rfl (by kernel_rfl) Try.func5 (by kernel_rfl)
    (of_decide_eq_true (by kernel_rfl)) (by unfold Func.isWrapper; first | (rw [if_pos (by decide +kernel)]; kernel_rfl) | (rw [if_neg (by decide +kernel)]; exact ⟨rfl, rfl⟩))
    (fun os started H enc _ => lifted os started H enc)

/-- ████ THE STATEMENT ████ -/
theorem proved : Rows.ArithSumsSaid :=
  over
#print axioms proved
end Go.Proofs.Ytkdojloabigfiaa.arithSums
