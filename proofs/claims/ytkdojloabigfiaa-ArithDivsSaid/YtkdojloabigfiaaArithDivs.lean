/-
  Proved: the statement 'ArithDivsSaid' of the seat: for every input that law returns true, and each argument reads afterwards as it read before. No condition of ours.
  The frame is the guide's shell; the walk and the contracts that it uses are ours.
-/
import Derived.Test.YtkdojloabigfiaaRows
import Derived.WalkKit
import Derived.ProofKit
import Derived.OpenShut
import Derived.Test.YtkdojloabigfiaaBase
import Derived.Test.YtkdojloabigfiaaAriC
import Derived.Test.YtkdojloabigfiaaAriD
import Derived.ShutString
namespace Go.Proofs.Ytkdojloabigfiaa.arithDivs
open Go.ChangeShapes Go.WideShapes Go.ChangeAt Go.RowKit
open Go.ChangeMaps (open_string shut_string)
set_option linter.unusedVariables false      -- a walk need not use every 'w<i>' (that an integer argument fits its kind)

theorem own : ownKnob Try.prog.godebug = none := by kernel_rfl

open Typ

/-! ### STEP 1: THE WALK: the Go text returns true. 'Kept w w'': nothing that was there has changed. Part the cases AHEAD of 'go_enter' where a test parts the walk; take each callee by a contract of your own. -/
set_option maxRecDepth 100000 in
set_option maxHeartbeats 4000000 in
theorem walk (a0 : Int) (a1 : Int) (a2 : Int) (a3 : Int) (w0 : (Lit.int .i32 a0).wf = true) (w1 : (Lit.int .i32 a1).wf = true) (w2 : (Lit.int .u32 a2).wf = true) (w3 : (Lit.int .u32 a3).wf = true) (w : World) :
    Calls Try.prog 6 #[.int .i32 a0, .int .i32 a1, .int .u32 a2, .int .u32 a3] w fun e w' => e = .returned (.bool true) ∧ Kept w w' := by
  have hx := bounds_i32 w0
  have hy := bounds_i32 w1
  have hc := bounds_u32 w2
  have hd := bounds_u32 w3
  by_cases h0 : a1 = 0
  · subst h0
    have e1 := div0 (k := 11) (t := 5) (a := a0) (by omega) (by omega) (in5' hx)
    have e2 := div0 (k := 12) (t := 5) (a := a0) (by omega) (by omega) (in5' hx)
    go_enter Try.func6, Try.ntmps6
    go_wp2_with (first | (go_at_call 9; refine (do_any _ _ _ _ _).mono ?_; rintro e w' ⟨rfl, rfl⟩) | (go_at_call 13; refine (awake_any _).mono ?_; rintro e w' ⟨rfl, rfl⟩))
    go_ret
    exact ⟨rfl, by repeat (first | exact Kept.refl _ | apply Kept.drew | apply Kept.alloc)⟩
  by_cases hm : a0 = -2147483648 ∧ a1 = -1
  · have e1 : doU 11 5 (-2147483648) (-1) = 1 := by decide +kernel
    have e2 : doU 12 5 (-2147483648) (-1) = 1 := by decide +kernel
    obtain ⟨g1, g2⟩ := hm
    clear hx hy w0 w1 h0
    subst g1
    subst g2
    obtain ⟨v1, hv1⟩ : ∃ v, doV 11 5 (-2147483648) (-1) = v := ⟨_, rfl⟩
    obtain ⟨v2, hv2⟩ : ∃ v, doV 12 5 (-2147483648) (-1) = v := ⟨_, rfl⟩
    go_enter Try.func6, Try.ntmps6
    go_wp2_with (first | (go_at_call 9; refine (do_any _ _ _ _ _).mono ?_; rintro e w' ⟨rfl, rfl⟩) | (go_at_call 13; refine (awake_any _).mono ?_; rintro e w' ⟨rfl, rfl⟩))
    go_ret
    exact ⟨rfl, by repeat (first | exact Kept.refl _ | apply Kept.drew | apply Kept.alloc)⟩
  obtain ⟨q1, q2⟩ := quo5 hx hy h0 hm
  obtain ⟨r1, r2⟩ := rem5 hx hy h0 hm
  obtain ⟨s1, s2, s3, s4⟩ := rest a0 a1 h0
  have t1 := quo_in hx h0 hm
  have t2 := tmod_in (b := a1) hx
  generalize a0.tdiv a1 = q at *
  generalize a0.tmod a1 = r at *
  have h0' : (a1 == 0) = false := by simpa using h0
  have hm' : (a0 == -2147483648 && a1 == -1) = false := by
    by_cases g : a0 = -2147483648
    · have g' : a1 ≠ -1 := fun g' => hm ⟨g, g'⟩
      simp [g']
    · simp [g]
  have hm2 : (a0 == -2147483648) = false ∨ ((a0 == -2147483648) = true ∧ (a1 == -1) = false) := by
    by_cases g : a0 = -2147483648
    · right; exact ⟨by simpa using g, by simpa using (fun g' => hm ⟨g, g'⟩ : ¬ a1 = -1)⟩
    · left; simpa using g
  clear hm
  have hqb : -9223372036854775808 ≤ q * a1 ∧ q * a1 ≤ 9223372036854775807 := by omega
  have hmul' : (q * a1 + r == a0) = true := by rw [beq_iff_eq]; exact s1
  have hpos : 0 < a1 ∨ a1 < 0 := by omega
  have b1 := fun h => (s2 h)
  have b2 := fun h => (s3 h)
  have hcase : (a3 = 0) ∨ ((a3 == 0) = false ∧ (a3 != 0) = true ∧ doV 11 6 a2 a3 = a2 / a3 ∧ doU 11 6 a2 a3 = 0 ∧ doV 12 6 a2 a3 = a2 % a3 ∧ doU 12 6 a2 a3 = 0) := by
    by_cases g : a3 = 0
    · exact .inl g
    · exact .inr ⟨by simpa using g, by simpa using g, (quo6 hc hd g).1, (quo6 hc hd g).2, (rem6 hc hd g).1, (rem6 hc hd g).2⟩
  have hsgn : r = 0 ∨ ((r == 0) = false ∧ r < 0 ∧ a0 < 0) ∨ ((r == 0) = false ∧ 0 < r ∧ 0 < a0) := by
    simp only [beq_eq_false_iff_ne]; omega
  rcases hm2 with hm2 | ⟨hm2, hm3⟩
  all_goals
    rcases hcase with rfl | ⟨d0, d0', d1, d2, d3, d4⟩
    case' inl =>
      have d1 := div0 (k := 11) (t := 6) (a := a2) (by omega) (by omega) (in6' hc)
      have d2 := div0 (k := 12) (t := 6) (a := a2) (by omega) (by omega) (in6' hc)
    case' inr =>
      have d5 : 1 ≤ a3 := by rw [beq_eq_false_iff_ne] at d0; omega
      have d6 := Int.ediv_nonneg hc.1 hd.1
      have d7 := Int.ediv_le_self a3 hc.1
      have d8 := Int.emod_nonneg a2 (show a3 ≠ 0 by omega)
      have d9 := Int.emod_lt_of_pos a2 (show 0 < a3 by omega)
    all_goals
      rcases hsgn with rfl | ⟨hs, hs1, hs2⟩ | ⟨hs, hs1, hs2⟩
      all_goals
        rcases hpos with hp | hp
        case' inl => obtain ⟨b3, b4⟩ := b1 hp
        case' inr => obtain ⟨b3, b4⟩ := b2 hp
        all_goals
          clear s2 s3 b1 b2 s4 hm' h0
          go_enter Try.func6, Try.ntmps6
          go_wp2_with (first | (go_at_call 9; refine (do_any _ _ _ _ _).mono ?_; rintro e w' ⟨rfl, rfl⟩) | (go_at_call 13; refine (awake_any _).mono ?_; rintro e w' ⟨rfl, rfl⟩))
          go_ret
          exact ⟨rfl, by repeat (first | exact Kept.refl _ | apply Kept.drew | apply Kept.alloc)⟩

/-! ### THE ROW's STEP: WRITTEN OUT: LEAVE IT -/
set_option maxRecDepth 100000 in
theorem lifted (os : Os) (started : os.Started) (H : Type) (enc : TypeId × Value → H) :
    ReturnsInHanded {} Try.checked os 6 .any (Rows.arithDivsSpec.pre6 enc Try.prog Try.f6 Rows.arithDivsRow.domain false) (Rows.arithDivsSpec.post enc Try.prog Try.f6 false true false false) := by
  refine returnsInHanded_of_change (C := Try.checked) own started (by kernel_rfl) Try.func6
    (ChangeSpec.witness6 (enc := enc) (C := Try.checked) false ⟨#[], #[.int .i32 0, .int .i32 0, .int .u32 0, .int .u32 0], []⟩ 8 (by kernel_rfl) (by kernel_rfl) (by kernel_rfl) (by kernel_rfl)) ?_
  intro W base args ds gs before hval0 hW hcnd _
  have hval : ∀ (j : Nat) t v, Try.f6.params[j]? = some t → args[j]? = some v → Value.okWide Try.prog W .any base t v := hval0
  have hW' := hW
  obtain ⟨p, q, hA0, hV, rfl, hfz, hnd⟩ := hW
  have hA : DataW.TrodAll enc Try.prog W 0 (fun _ => true) true Try.f6.params.toList args.toList ds p := hA0
  rw [Try.params6] at hA hval
  obtain ⟨v0, vs0, d0, ds0, p0, q0, hargs, rfl, rfl, h0, r0⟩ := trodAll_cons hA
  obtain ⟨v1, vs1, d1, ds1, p1, q1, rfl, rfl, rfl, h1, r1⟩ := trodAll_cons r0
  obtain ⟨v2, vs2, d2, ds2, p2, q2, rfl, rfl, rfl, h2, r2⟩ := trodAll_cons r1
  obtain ⟨v3, vs3, d3, ds3, p3, q3, rfl, rfl, rfl, h3, r3⟩ := trodAll_cons r2
  obtain ⟨rfl, rfl, rfl⟩ := trodAll_nil r3
  obtain rfl : args = #[v0, v1, v2, v3] := by cases args; simp_all
  obtain ⟨rfl, rfl⟩ := trodVars_none hV
  obtain ⟨a0, rfl, rfl, rfl, w0⟩ := open_int Try.underlying21 (hval 0 21 v0 rfl rfl) h0
  obtain ⟨a1, rfl, rfl, rfl, w1⟩ := open_int Try.underlying21 (hval 1 21 v1 rfl rfl) h1
  obtain ⟨a2, rfl, rfl, rfl, w2⟩ := open_int Try.underlying27 (hval 2 27 v2 rfl rfl) h2
  obtain ⟨a3, rfl, rfl, rfl, w3⟩ := open_int Try.underlying27 (hval 3 27 v3 rfl rfl) h3
  clear hA0 hval0
  simp only [List.append_nil] at hW'
  refine (walk a0 a1 a2 a3 w0 w1 w2 w3 W).mono fun e W' ⟨he, hg⟩ => ?_
  subst he
  exact ⟨_, rfl, post_kept hW' (fun _ _ _ => (trodAll_cons_mk (shut_bool Try.underlying4 _) trodAll_mk0)) (fun sp => (trodAll_cons_mk (shut_int Try.underlying21 w0) (trodAll_cons_mk (shut_int Try.underlying21 w1) (trodAll_cons_mk (shut_int Try.underlying27 w2) (trodAll_cons_mk (shut_int Try.underlying27 w3) trodAll_mk0))))) (fun _ => rfl) hg⟩

theorem over : Rows.arithDivsRow.holds Try.pinned (OpenSpec.ofChange Rows.arithDivsSpec) :=
  OpenClaim.holds_of_wide 6 Try.f6 rfl rfl rfl rfl rfl rfl rfl ⟨rfl, rfl, rfl, rfl, rfl⟩ rfl rfl rfl rfl rfl (by kernel_rfl) Try.func6 (by kernel_rfl)
    (of_decide_eq_true (by kernel_rfl)) (by unfold Func.isWrapper; first | (rw [if_pos (by decide +kernel)]; kernel_rfl) | (rw [if_neg (by decide +kernel)]; exact ⟨rfl, rfl⟩))
    (fun os started H enc _ => lifted os started H enc)

/-- ████ THE STATEMENT ████ -/
theorem proved : Rows.ArithDivsSaid :=
  over
#print axioms proved
end Go.Proofs.Ytkdojloabigfiaa.arithDivs
