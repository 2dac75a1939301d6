/-
  Proved: the statement 'TypWrapsSaid' of the seat: for every input that law returns true, and each argument reads afterwards as it read before. No condition of ours.
  The frame is the guide's shell; the walk and the contracts that it uses are ours.
-/
import Derived.Test.YtakcnaahgcfkkaaRows
import Derived.WalkKit
import Derived.ProofKit
import Derived.OpenShut
import Derived.Test.YtakcnaahgcfkkaaBase
import Derived.Test.YtakcnaahgcfkkaaTypC
import Derived.ShutString
namespace Go.Proofs.Ytakcnaahgcfkkaa.typWraps
open Go.ChangeShapes Go.WideShapes Go.ChangeAt Go.RowKit
open Go.ChangeMaps (open_string shut_string)
set_option linter.unusedVariables false      -- a walk need not use every 'w<i>' (that an integer argument fits its kind)

theorem own : ownKnob Try.prog.godebug = none := by kernel_rfl

open Typ
attribute [local go_sem] minF maxF
theorem six (n : Int) (h : 1 ≤ n ∧ n ≤ 6) : n = 1 ∨ n = 2 ∨ n = 3 ∨ n = 4 ∨ n = 5 ∨ n = 6 := by omega
theorem wrap_bd (n v : Int) (h : 1 ≤ n ∧ n ≤ 6) : minF n ≤ wrapF n v ∧ wrapF n v ≤ maxF n := by
  rcases six n h with rfl | rfl | rfl | rfl | rfl | rfl <;> unfold wrapF minF maxF <;> simp <;> omega
theorem wrap_in (n v : Int) (h : 1 ≤ n ∧ n ≤ 6) : inF n (wrapF n v) = true := by
  have h2 := wrap_bd n v h
  unfold inF; simp only [decide_eq_true_eq]; omega
theorem wrap_same (n v : Int) (h : inF n v = true) : wrapF n v = v := by
  unfold inF at h; simp only [decide_eq_true_eq] at h
  obtain ⟨h1, h2, h3, h4⟩ := h
  rcases six n ⟨h1, h2⟩ with rfl | rfl | rfl | rfl | rfl | rfl <;> unfold minF at h3 <;> unfold maxF at h4 <;> simp at h3 h4 <;> unfold wrapF <;> simp <;> omega
theorem wrap_mod (n v : Int) (h : 1 ≤ n ∧ n ≤ 6) : ∃ q, wrapF n v - v = q * (maxF n - minF n + 1) := by
  rcases six n h with rfl | rfl | rfl | rfl | rfl | rfl <;> unfold wrapF minF maxF <;> simp
  · exact ⟨-((v + 128) / 256), by omega⟩
  · exact ⟨-(v / 256), by omega⟩
  · exact ⟨-((v + 32768) / 65536), by omega⟩
  · exact ⟨-(v / 65536), by omega⟩
  · exact ⟨-((v + 2147483648) / 4294967296), by omega⟩
  · exact ⟨-(v / 4294967296), by omega⟩
theorem wrap_add (n v k : Int) (h : 1 ≤ n ∧ n ≤ 6) : wrapF n (v + k * (maxF n - minF n + 1)) = wrapF n v := by
  rcases six n h with rfl | rfl | rfl | rfl | rfl | rfl <;> unfold wrapF minF maxF <;> simp <;> omega
theorem tmod_of (a q m : Int) (h : a = q * m) : (a.tmod m == 0) = true := by
  subst h; rw [Int.mul_tmod_left]; rfl

/-! ### STEP 1: THE WALK: the Go text returns true. 'Kept w w'': nothing that was there has changed. Part the cases AHEAD of 'go_enter' where a test parts the walk; take each callee by a contract of your own. -/
set_option maxHeartbeats 4000000 in
theorem walk (a0 : Int) (a1 : Int) (a2 : Int) (w0 : (Lit.int .u8 a0).wf = true) (w1 : (Lit.int .i32 a1).wf = true) (w2 : (Lit.int .i8 a2).wf = true) (w : World) :
    Calls Try.prog 4 #[.int .u8 a0, .int .i32 a1, .int .i8 a2] w fun e w' => e = .returned (.bool true) ∧ Kept w w' := by
  have hb0 := bounds_u8 w0
  have hb1 := bounds_i32 w1
  have hb2 := bounds_i8 w2
  obtain ⟨x, hx, hx0, hx6⟩ : ∃ x : Int, a0 % 6 = x ∧ 0 ≤ x ∧ x < 6 := ⟨_, rfl, by omega, by omega⟩
  have f1 := wrap_bd (1 + x) a1 (by omega)
  have f2 := wrap_in (1 + x) a1 (by omega)
  have f3 := wrap_same (1 + x) a1
  obtain ⟨q, g4⟩ := wrap_mod (1 + x) a1 (by omega)
  have f4 := tmod_of _ _ _ g4
  clear g4 q
  have f5 := wrap_add (1 + x) a1 a2 (by omega)
  rcases (show x = 0 ∨ x = 1 ∨ x = 2 ∨ x = 3 ∨ x = 4 ∨ x = 5 by omega) with rfl | rfl | rfl | rfl | rfl | rfl
  · clear hx0 hx6
    simp only [minF, maxF, Int.reduceAdd, Int.reduceSub, Int.reduceNeg, Int.reduceEq, reduceIte] at f1 f2 f3 f4 f5
    by_cases g : inF 1 a1 = true
    · have f6 := beq_iff_eq.2 (f3 g)
      clear f3
      go_enter Try.func4, Try.ntmps4
      go_wp2_with (first | (go_at_call 7; refine (min_any _ _).mono ?_; rintro e w' ⟨rfl, rfl⟩) | (go_at_call 9; refine (max_any _ _).mono ?_; rintro e w' ⟨rfl, rfl⟩) | (go_at_call 11; refine (in_any _ _ _).mono ?_; rintro e w' ⟨rfl, rfl⟩) | (go_at_call 13; refine (wrap_any _ _ _).mono ?_; rintro e w' ⟨rfl, rfl⟩) | (go_at_call 23; refine (awake_any _).mono ?_; rintro e w' ⟨rfl, rfl⟩))
      go_ret
      exact ⟨rfl, by repeat (first | exact Kept.refl _ | apply Kept.drew | apply Kept.alloc)⟩
    · have g : inF 1 a1 = false := by simpa using g
      clear f3
      go_enter Try.func4, Try.ntmps4
      go_wp2_with (first | (go_at_call 7; refine (min_any _ _).mono ?_; rintro e w' ⟨rfl, rfl⟩) | (go_at_call 9; refine (max_any _ _).mono ?_; rintro e w' ⟨rfl, rfl⟩) | (go_at_call 11; refine (in_any _ _ _).mono ?_; rintro e w' ⟨rfl, rfl⟩) | (go_at_call 13; refine (wrap_any _ _ _).mono ?_; rintro e w' ⟨rfl, rfl⟩) | (go_at_call 23; refine (awake_any _).mono ?_; rintro e w' ⟨rfl, rfl⟩))
      go_ret
      exact ⟨rfl, by repeat (first | exact Kept.refl _ | apply Kept.drew | apply Kept.alloc)⟩
  · clear hx0 hx6
    simp only [minF, maxF, Int.reduceAdd, Int.reduceSub, Int.reduceNeg, Int.reduceEq, reduceIte] at f1 f2 f3 f4 f5
    by_cases g : inF 2 a1 = true
    · have f6 := beq_iff_eq.2 (f3 g)
      clear f3
      go_enter Try.func4, Try.ntmps4
      go_wp2_with (first | (go_at_call 7; refine (min_any _ _).mono ?_; rintro e w' ⟨rfl, rfl⟩) | (go_at_call 9; refine (max_any _ _).mono ?_; rintro e w' ⟨rfl, rfl⟩) | (go_at_call 11; refine (in_any _ _ _).mono ?_; rintro e w' ⟨rfl, rfl⟩) | (go_at_call 13; refine (wrap_any _ _ _).mono ?_; rintro e w' ⟨rfl, rfl⟩) | (go_at_call 23; refine (awake_any _).mono ?_; rintro e w' ⟨rfl, rfl⟩))
      go_ret
      exact ⟨rfl, by repeat (first | exact Kept.refl _ | apply Kept.drew | apply Kept.alloc)⟩
    · have g : inF 2 a1 = false := by simpa using g
      clear f3
      go_enter Try.func4, Try.ntmps4
      go_wp2_with (first | (go_at_call 7; refine (min_any _ _).mono ?_; rintro e w' ⟨rfl, rfl⟩) | (go_at_call 9; refine (max_any _ _).mono ?_; rintro e w' ⟨rfl, rfl⟩) | (go_at_call 11; refine (in_any _ _ _).mono ?_; rintro e w' ⟨rfl, rfl⟩) | (go_at_call 13; refine (wrap_any _ _ _).mono ?_; rintro e w' ⟨rfl, rfl⟩) | (go_at_call 23; refine (awake_any _).mono ?_; rintro e w' ⟨rfl, rfl⟩))
      go_ret
      exact ⟨rfl, by repeat (first | exact Kept.refl _ | apply Kept.drew | apply Kept.alloc)⟩
  · clear hx0 hx6
    simp only [minF, maxF, Int.reduceAdd, Int.reduceSub, Int.reduceNeg, Int.reduceEq, reduceIte] at f1 f2 f3 f4 f5
    by_cases g : inF 3 a1 = true
    · have f6 := beq_iff_eq.2 (f3 g)
      clear f3
      go_enter Try.func4, Try.ntmps4
      go_wp2_with (first | (go_at_call 7; refine (min_any _ _).mono ?_; rintro e w' ⟨rfl, rfl⟩) | (go_at_call 9; refine (max_any _ _).mono ?_; rintro e w' ⟨rfl, rfl⟩) | (go_at_call 11; refine (in_any _ _ _).mono ?_; rintro e w' ⟨rfl, rfl⟩) | (go_at_call 13; refine (wrap_any _ _ _).mono ?_; rintro e w' ⟨rfl, rfl⟩) | (go_at_call 23; refine (awake_any _).mono ?_; rintro e w' ⟨rfl, rfl⟩))
      go_ret
      exact ⟨rfl, by repeat (first | exact Kept.refl _ | apply Kept.drew | apply Kept.alloc)⟩
    · have g : inF 3 a1 = false := by simpa using g
      clear f3
      go_enter Try.func4, Try.ntmps4
      go_wp2_with (first | (go_at_call 7; refine (min_any _ _).mono ?_; rintro e w' ⟨rfl, rfl⟩) | (go_at_call 9; refine (max_any _ _).mono ?_; rintro e w' ⟨rfl, rfl⟩) | (go_at_call 11; refine (in_any _ _ _).mono ?_; rintro e w' ⟨rfl, rfl⟩) | (go_at_call 13; refine (wrap_any _ _ _).mono ?_; rintro e w' ⟨rfl, rfl⟩) | (go_at_call 23; refine (awake_any _).mono ?_; rintro e w' ⟨rfl, rfl⟩))
      go_ret
      exact ⟨rfl, by repeat (first | exact Kept.refl _ | apply Kept.drew | apply Kept.alloc)⟩
  · clear hx0 hx6
    simp only [minF, maxF, Int.reduceAdd, Int.reduceSub, Int.reduceNeg, Int.reduceEq, reduceIte] at f1 f2 f3 f4 f5
    by_cases g : inF 4 a1 = true
    · have f6 := beq_iff_eq.2 (f3 g)
      clear f3
      go_enter Try.func4, Try.ntmps4
      go_wp2_with (first | (go_at_call 7; refine (min_any _ _).mono ?_; rintro e w' ⟨rfl, rfl⟩) | (go_at_call 9; refine (max_any _ _).mono ?_; rintro e w' ⟨rfl, rfl⟩) | (go_at_call 11; refine (in_any _ _ _).mono ?_; rintro e w' ⟨rfl, rfl⟩) | (go_at_call 13; refine (wrap_any _ _ _).mono ?_; rintro e w' ⟨rfl, rfl⟩) | (go_at_call 23; refine (awake_any _).mono ?_; rintro e w' ⟨rfl, rfl⟩))
      go_ret
      exact ⟨rfl, by repeat (first | exact Kept.refl _ | apply Kept.drew | apply Kept.alloc)⟩
    · have g : inF 4 a1 = false := by simpa using g
      clear f3
      go_enter Try.func4, Try.ntmps4
      go_wp2_with (first | (go_at_call 7; refine (min_any _ _).mono ?_; rintro e w' ⟨rfl, rfl⟩) | (go_at_call 9; refine (max_any _ _).mono ?_; rintro e w' ⟨rfl, rfl⟩) | (go_at_call 11; refine (in_any _ _ _).mono ?_; rintro e w' ⟨rfl, rfl⟩) | (go_at_call 13; refine (wrap_any _ _ _).mono ?_; rintro e w' ⟨rfl, rfl⟩) | (go_at_call 23; refine (awake_any _).mono ?_; rintro e w' ⟨rfl, rfl⟩))
      go_ret
      exact ⟨rfl, by repeat (first | exact Kept.refl _ | apply Kept.drew | apply Kept.alloc)⟩
  · clear hx0 hx6
    simp only [minF, maxF, Int.reduceAdd, Int.reduceSub, Int.reduceNeg, Int.reduceEq, reduceIte] at f1 f2 f3 f4 f5
    by_cases g : inF 5 a1 = true
    · have f6 := beq_iff_eq.2 (f3 g)
      clear f3
      go_enter Try.func4, Try.ntmps4
      go_wp2_with (first | (go_at_call 7; refine (min_any _ _).mono ?_; rintro e w' ⟨rfl, rfl⟩) | (go_at_call 9; refine (max_any _ _).mono ?_; rintro e w' ⟨rfl, rfl⟩) | (go_at_call 11; refine (in_any _ _ _).mono ?_; rintro e w' ⟨rfl, rfl⟩) | (go_at_call 13; refine (wrap_any _ _ _).mono ?_; rintro e w' ⟨rfl, rfl⟩) | (go_at_call 23; refine (awake_any _).mono ?_; rintro e w' ⟨rfl, rfl⟩))
      go_ret
      exact ⟨rfl, by repeat (first | exact Kept.refl _ | apply Kept.drew | apply Kept.alloc)⟩
    · have g : inF 5 a1 = false := by simpa using g
      clear f3
      go_enter Try.func4, Try.ntmps4
      go_wp2_with (first | (go_at_call 7; refine (min_any _ _).mono ?_; rintro e w' ⟨rfl, rfl⟩) | (go_at_call 9; refine (max_any _ _).mono ?_; rintro e w' ⟨rfl, rfl⟩) | (go_at_call 11; refine (in_any _ _ _).mono ?_; rintro e w' ⟨rfl, rfl⟩) | (go_at_call 13; refine (wrap_any _ _ _).mono ?_; rintro e w' ⟨rfl, rfl⟩) | (go_at_call 23; refine (awake_any _).mono ?_; rintro e w' ⟨rfl, rfl⟩))
      go_ret
      exact ⟨rfl, by repeat (first | exact Kept.refl _ | apply Kept.drew | apply Kept.alloc)⟩
  · clear hx0 hx6
    simp only [minF, maxF, Int.reduceAdd, Int.reduceSub, Int.reduceNeg, Int.reduceEq, reduceIte] at f1 f2 f3 f4 f5
    by_cases g : inF 6 a1 = true
    · have f6 := beq_iff_eq.2 (f3 g)
      clear f3
      go_enter Try.func4, Try.ntmps4
      go_wp2_with (first | (go_at_call 7; refine (min_any _ _).mono ?_; rintro e w' ⟨rfl, rfl⟩) | (go_at_call 9; refine (max_any _ _).mono ?_; rintro e w' ⟨rfl, rfl⟩) | (go_at_call 11; refine (in_any _ _ _).mono ?_; rintro e w' ⟨rfl, rfl⟩) | (go_at_call 13; refine (wrap_any _ _ _).mono ?_; rintro e w' ⟨rfl, rfl⟩) | (go_at_call 23; refine (awake_any _).mono ?_; rintro e w' ⟨rfl, rfl⟩))
      go_ret
      exact ⟨rfl, by repeat (first | exact Kept.refl _ | apply Kept.drew | apply Kept.alloc)⟩
    · have g : inF 6 a1 = false := by simpa using g
      clear f3
      go_enter Try.func4, Try.ntmps4
      go_wp2_with (first | (go_at_call 7; refine (min_any _ _).mono ?_; rintro e w' ⟨rfl, rfl⟩) | (go_at_call 9; refine (max_any _ _).mono ?_; rintro e w' ⟨rfl, rfl⟩) | (go_at_call 11; refine (in_any _ _ _).mono ?_; rintro e w' ⟨rfl, rfl⟩) | (go_at_call 13; refine (wrap_any _ _ _).mono ?_; rintro e w' ⟨rfl, rfl⟩) | (go_at_call 23; refine (awake_any _).mono ?_; rintro e w' ⟨rfl, rfl⟩))
      go_ret
      exact ⟨rfl, by repeat (first | exact Kept.refl _ | apply Kept.drew | apply Kept.alloc)⟩

/-! ### THE ROW's STEP: WRITTEN OUT: LEAVE IT -/
set_option maxRecDepth 100000 in
theorem lifted (os : Os) (started : os.Started) (H : Type) (enc : TypeId × Value → H) :
    ReturnsInHanded {} Try.checked os 4 .any (Rows.typWrapsSpec.pre6 enc Try.prog Try.f4 Rows.typWrapsRow.domain false) (Rows.typWrapsSpec.post enc Try.prog Try.f4 false true false false) := by
  refine returnsInHanded_of_change (C := Try.checked) own started (by kernel_rfl) Try.func4
    (ChangeSpec.witness6 (enc := enc) (C := Try.checked) false ⟨#[], #[.int .u8 0, .int .i32 0, .int .i8 0], []⟩ 8 (by kernel_rfl) (by kernel_rfl) (by kernel_rfl) (by kernel_rfl)) ?_
  intro W base args ds gs before hval0 hW hcnd _
  have hval : ∀ (j : Nat) t v, Try.f4.params[j]? = some t → args[j]? = some v → Value.okWide Try.prog W .any base t v := hval0
  have hW' := hW
  obtain ⟨p, q, hA0, hV, rfl, hfz, hnd⟩ := hW
  have hA : DataW.TrodAll enc Try.prog W 0 (fun _ => true) true Try.f4.params.toList args.toList ds p := hA0
  rw [Try.params4] at hA hval
  obtain ⟨v0, vs0, d0, ds0, p0, q0, hargs, rfl, rfl, h0, r0⟩ := trodAll_cons hA
  obtain ⟨v1, vs1, d1, ds1, p1, q1, rfl, rfl, rfl, h1, r1⟩ := trodAll_cons r0
  obtain ⟨v2, vs2, d2, ds2, p2, q2, rfl, rfl, rfl, h2, r2⟩ := trodAll_cons r1
  obtain ⟨rfl, rfl, rfl⟩ := trodAll_nil r2
  obtain rfl : args = #[v0, v1, v2] := by cases args; simp_all
  obtain ⟨rfl, rfl⟩ := trodVars_none hV
  obtain ⟨a0, rfl, rfl, rfl, w0⟩ := open_int Try.underlying5 (hval 0 5 v0 rfl rfl) h0
  obtain ⟨a1, rfl, rfl, rfl, w1⟩ := open_int Try.underlying21 (hval 1 21 v1 rfl rfl) h1
  obtain ⟨a2, rfl, rfl, rfl, w2⟩ := open_int Try.underlying29 (hval 2 29 v2 rfl rfl) h2
  clear hA0 hval0
  simp only [List.append_nil] at hW'
  refine (walk a0 a1 a2 w0 w1 w2 W).mono fun e W' ⟨he, hg⟩ => ?_
  subst he
  exact ⟨_, rfl, post_kept hW' (fun _ _ _ => (trodAll_cons_mk (shut_bool Try.underlying4 _) trodAll_mk0)) (fun sp => (trodAll_cons_mk (shut_int Try.underlying5 w0) (trodAll_cons_mk (shut_int Try.underlying21 w1) (trodAll_cons_mk (shut_int Try.underlying29 w2) trodAll_mk0)))) (fun _ => rfl) hg⟩

theorem over : Rows.typWrapsRow.holds Try.pinned (OpenSpec.ofChange Rows.typWrapsSpec) :=
  OpenClaim.holds_of_wide 4 Try.f4 rfl rfl rfl rfl rfl rfl rfl ⟨rfl, rfl, rfl, rfl, rfl⟩ rfl rfl rfl rfl rfl (by kernel_rfl) Try.func4 (by kernel_rfl)
    (of_decide_eq_true (by kernel_rfl)) (by unfold Func.isWrapper; first | (rw [if_pos (by decide +kernel)]; kernel_rfl) | (rw [if_neg (by decide +kernel)]; exact ⟨rfl, rfl⟩))
    (fun os started H enc _ => lifted os started H enc)

/-- ████ THE STATEMENT ████ -/
theorem proved : Rows.TypWrapsSaid :=
  over
#print axioms proved
end Go.Proofs.Ytakcnaahgcfkkaa.typWraps
