/-
  Proved: the statement 'TypNamesSaid' of the seat: for every input that law returns true, and each argument reads afterwards as it read before. No condition of ours.
  The frame is the guide's shell; the walk and the contracts that it uses are ours.
-/
import Derived.Test.YtakcnaahgcfkkaaRows
import Derived.WalkKit
import Derived.ProofKit
import Derived.OpenShut
import Derived.Test.YtakcnaahgcfkkaaBase
import Derived.Test.YtakcnaahgcfkkaaTypC
import Derived.Deep.QuietTactic
import Derived.BigQuiet
import Derived.ShutString
namespace Go.Proofs.Ytakcnaahgcfkkaa.typNames
open Go.ChangeShapes Go.WideShapes Go.ChangeAt Go.RowKit
open Go.ChangeMaps (open_string shut_string)
set_option linter.unusedVariables false      -- a walk need not use every 'w<i>' (that an integer argument fits its kind)

theorem own : ownKnob Try.prog.godebug = none := by kernel_rfl

open Typ
/-- Which of the first k names s is; 0: none. -/
def isTo (s : List UInt8) : Nat → Int
  | 0 => 0
  | k + 1 => if s = nameF (k + 1) then k + 1 else isTo s k
theorem isTo_yes (s : List UInt8) (k : Nat) (z : Int) (hz : z = k + 1) (l : List UInt8) (hn : nameF z = l) (h : (s == l) = true) : isTo s (k + 1) = z := by
  subst hz; simp only [beq_iff_eq] at h; simp [isTo, h, hn]
theorem isTo_no (s : List UInt8) (k : Nat) (z : Int) (hz : z = k + 1) (l : List UInt8) (hn : nameF z = l) (h : (s == l) = false) : isTo s (k + 1) = isTo s k := by
  subst hz; simp only [beq_eq_false_iff_ne] at h; simp [isTo, h, hn]
theorem isTo_all (s : List UInt8) : readF s = isTo s 6 := by
  simp only [isTo, readF, nameF]
  by_cases h1 : s = [105, 56]
  · subst h1; decide
  by_cases h2 : s = [117, 56]
  · subst h2; decide
  by_cases h3 : s = [105, 49, 54]
  · subst h3; decide
  by_cases h4 : s = [117, 49, 54]
  · subst h4; decide
  by_cases h5 : s = [105, 51, 50]
  · subst h5; decide
  by_cases h6 : s = [117, 51, 50]
  · subst h6; decide
  simp [h1, h2, h3, h4, h5, h6]

/-! ### STEP 1: THE WALK: the Go text returns true. 'Kept w w'': nothing that was there has changed. Part the cases AHEAD of 'go_enter' where a test parts the walk; take each callee by a contract of your own. -/
set_option maxHeartbeats 4000000 in
theorem walk (a0 : ByteArray) (w0 : a0.size ≤ maxLen) (w : World) :
    Calls Try.prog 5 #[.string a0] w fun e w' => e = .returned (.bool true) ∧ Kept w w' := by
  go_enter Try.func5, Try.ntmps5
  go_wp2
  go_loopw [4, 5] (fun is i wx => ∃ k n : Nat, k ≤ 6 ∧ i = .int .i64 k ∧ is = .int .i64 (isTo a0.toList k) ∧ wx = (w.alloc (.cells #[.string ⟨#[105,56]⟩, .string ⟨#[117,56]⟩, .string ⟨#[105,49,54]⟩, .string ⟨#[117,49,54]⟩, .string ⟨#[105,51,50]⟩, .string ⟨#[117,51,50]⟩] 9)).drewN n) (fun _ i _ => 6 - (intOf i).toNat)
  case atStart => exact ⟨0, 0, by omega, rfl, rfl, rfl⟩
  case round =>
    obtain ⟨k, n, hk, rfl, rfl, rfl⟩ := hrel
    rcases (show k = 0 ∨ k = 1 ∨ k = 2 ∨ k = 3 ∨ k = 4 ∨ k = 5 ∨ k = 6 by omega) with rfl | rfl | rfl | rfl | rfl | rfl | rfl
    · have hn : nameF 1 = [105, 56] := rfl
      have hr : readF [105, 56] = 1 := rfl
      go_wp2
      go_quiet (first | (go_at_call 19; exact quiet_same (name_any _ _)) | (go_at_call 21; exact quiet_same (read_any _ _)))
      go_wp2
      · refine ⟨⟨1, _, by omega, rfl, ?_, rfl⟩, by simp [intOf]⟩
        rw [isTo_yes a0.toList 0 1 (by omega) _ hn (by assumption)]
      · refine ⟨⟨1, _, by omega, rfl, ?_, rfl⟩, by simp [intOf]⟩
        rw [isTo_no a0.toList 0 1 (by omega) _ hn (by assumption)]
    · have hn : nameF 2 = [117, 56] := rfl
      have hr : readF [117, 56] = 2 := rfl
      go_wp2
      go_quiet (first | (go_at_call 19; exact quiet_same (name_any _ _)) | (go_at_call 21; exact quiet_same (read_any _ _)))
      go_wp2
      · refine ⟨⟨2, _, by omega, rfl, ?_, rfl⟩, by simp [intOf]⟩
        rw [isTo_yes a0.toList 1 2 (by omega) _ hn (by assumption)]
      · refine ⟨⟨2, _, by omega, rfl, ?_, rfl⟩, by simp [intOf]⟩
        rw [isTo_no a0.toList 1 2 (by omega) _ hn (by assumption)]
    · have hn : nameF 3 = [105, 49, 54] := rfl
      have hr : readF [105, 49, 54] = 3 := rfl
      go_wp2
      go_quiet (first | (go_at_call 19; exact quiet_same (name_any _ _)) | (go_at_call 21; exact quiet_same (read_any _ _)))
      go_wp2
      · refine ⟨⟨3, _, by omega, rfl, ?_, rfl⟩, by simp [intOf]⟩
        rw [isTo_yes a0.toList 2 3 (by omega) _ hn (by assumption)]
      · refine ⟨⟨3, _, by omega, rfl, ?_, rfl⟩, by simp [intOf]⟩
        rw [isTo_no a0.toList 2 3 (by omega) _ hn (by assumption)]
    · have hn : nameF 4 = [117, 49, 54] := rfl
      have hr : readF [117, 49, 54] = 4 := rfl
      go_wp2
      go_quiet (first | (go_at_call 19; exact quiet_same (name_any _ _)) | (go_at_call 21; exact quiet_same (read_any _ _)))
      go_wp2
      · refine ⟨⟨4, _, by omega, rfl, ?_, rfl⟩, by simp [intOf]⟩
        rw [isTo_yes a0.toList 3 4 (by omega) _ hn (by assumption)]
      · refine ⟨⟨4, _, by omega, rfl, ?_, rfl⟩, by simp [intOf]⟩
        rw [isTo_no a0.toList 3 4 (by omega) _ hn (by assumption)]
    · have hn : nameF 5 = [105, 51, 50] := rfl
      have hr : readF [105, 51, 50] = 5 := rfl
      go_wp2
      go_quiet (first | (go_at_call 19; exact quiet_same (name_any _ _)) | (go_at_call 21; exact quiet_same (read_any _ _)))
      go_wp2
      · refine ⟨⟨5, _, by omega, rfl, ?_, rfl⟩, by simp [intOf]⟩
        rw [isTo_yes a0.toList 4 5 (by omega) _ hn (by assumption)]
      · refine ⟨⟨5, _, by omega, rfl, ?_, rfl⟩, by simp [intOf]⟩
        rw [isTo_no a0.toList 4 5 (by omega) _ hn (by assumption)]
    · have hn : nameF 6 = [117, 51, 50] := rfl
      have hr : readF [117, 51, 50] = 6 := rfl
      go_wp2
      go_quiet (first | (go_at_call 19; exact quiet_same (name_any _ _)) | (go_at_call 21; exact quiet_same (read_any _ _)))
      go_wp2
      · refine ⟨⟨6, _, by omega, rfl, ?_, rfl⟩, by simp [intOf]⟩
        rw [isTo_yes a0.toList 5 6 (by omega) _ hn (by assumption)]
      · refine ⟨⟨6, _, by omega, rfl, ?_, rfl⟩, by simp [intOf]⟩
        rw [isTo_no a0.toList 5 6 (by omega) _ hn (by assumption)]
    · have hf : (readF a0.toList == isTo a0.toList 6) = true := beq_iff_eq.2 (isTo_all _)
      go_wp2_with (first | (go_at_call 21; refine (read_any _ _).mono ?_; rintro e w' ⟨rfl, rfl⟩) | (go_at_call 23; refine (awake_any _).mono ?_; rintro e w' ⟨rfl, rfl⟩))
      go_ret
      exact ⟨rfl, ((Kept.refl _).alloc _).drewN _⟩

/-! ### THE ROW's STEP: WRITTEN OUT: LEAVE IT -/
set_option maxRecDepth 100000 in
theorem lifted (os : Os) (started : os.Started) (H : Type) (enc : TypeId × Value → H) :
    ReturnsInHanded {} Try.checked os 5 .any (Rows.typNamesSpec.pre6 enc Try.prog Try.f5 Rows.typNamesRow.domain false) (Rows.typNamesSpec.post enc Try.prog Try.f5 false true false false) := by
  refine returnsInHanded_of_change (C := Try.checked) own started (by kernel_rfl) Try.func5
    (ChangeSpec.witness6 (enc := enc) (C := Try.checked) false ⟨#[], #[.string ByteArray.empty], []⟩ 8 (by kernel_rfl) (by kernel_rfl) (by kernel_rfl) (by kernel_rfl)) ?_
  intro W base args ds gs before hval0 hW hcnd _
  have hval : ∀ (j : Nat) t v, Try.f5.params[j]? = some t → args[j]? = some v → Value.okWide Try.prog W .any base t v := hval0
  have hW' := hW
  obtain ⟨p, q, hA0, hV, rfl, hfz, hnd⟩ := hW
  have hA : DataW.TrodAll enc Try.prog W 0 (fun _ => true) true Try.f5.params.toList args.toList ds p := hA0
  rw [Try.params5] at hA hval
  obtain ⟨v0, vs0, d0, ds0, p0, q0, hargs, rfl, rfl, h0, r0⟩ := trodAll_cons hA
  obtain ⟨rfl, rfl, rfl⟩ := trodAll_nil r0
  obtain rfl : args = #[v0] := by cases args; simp_all
  obtain ⟨rfl, rfl⟩ := trodVars_none hV
  obtain ⟨a0, rfl, rfl, rfl, w0⟩ := open_string Try.underlying9 (hval 0 9 v0 rfl rfl) h0
  clear hA0 hval0
  simp only [List.append_nil] at hW'
  refine (walk a0 w0 W).mono fun e W' ⟨he, hg⟩ => ?_
  subst he
  exact ⟨_, rfl, post_kept hW' (fun _ _ _ => (trodAll_cons_mk (shut_bool Try.underlying4 _) trodAll_mk0)) (fun sp => (trodAll_cons_mk (shut_string Try.underlying9 w0) trodAll_mk0)) (fun _ => rfl) hg⟩

theorem over : Rows.typNamesRow.holds Try.pinned (OpenSpec.ofChange Rows.typNamesSpec) :=
  OpenClaim.holds_of_wide 5 Try.f5 rfl rfl rfl rfl rfl rfl rfl ⟨rfl, rfl, rfl, rfl, rfl⟩ rfl rfl rfl rfl rfl (by kernel_rfl) Try.func5 (by kernel_rfl)
    (of_decide_eq_true (by kernel_rfl)) (by unfold Func.isWrapper; first | (rw [if_pos (by decide +kernel)]; kernel_rfl) | (rw [if_neg (by decide +kernel)]; exact ⟨rfl, rfl⟩))
    (fun os started H enc _ => lifted os started H enc)

/-- ████ THE STATEMENT ████ -/
theorem proved : Rows.TypNamesSaid :=
  over
#print axioms proved
end Go.Proofs.Ytakcnaahgcfkkaa.typNames
