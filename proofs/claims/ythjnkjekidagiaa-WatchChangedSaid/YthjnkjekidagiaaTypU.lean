/-
  Contracts of typ.Up, typ.known, typ.Join, for a seat without the rows of layer 1. No condition.
-/
import Derived.Test.YthjnkjekidagiaaBase
import Derived.Test.YthjnkjekidagiaaRows
import Derived.Test.YthjnkjekidagiaaPlain
import Derived.WalkKit
import Derived.WalkSpells
import Derived.WalkLawsBesides
import Derived.IntWalk
import Derived.Outline
namespace Go.Proofs.Ythjnkjekidagiaa.Typ
open Go.RowKit

theorem up_any (t : Int) (w : World) : Calls Try.prog 91 #[.int .i64 t] w fun e w' => e = .returned (.int .i64 (upF t)) ∧ w = w' := by
  rcases eight t with rfl | rfl | rfl | rfl | rfl | rfl | ⟨hn, hlt⟩ | ⟨hn, hlt⟩
  case' inr.inr.inr.inr.inr.inr.inl =>
    obtain ⟨-, -, -, -, e0, -, -, -⟩ := none_of hn
    obtain ⟨h1, h2, h3, h4, h5, h6⟩ := hn
    rw [e0]; clear e0
  case' inr.inr.inr.inr.inr.inr.inr =>
    obtain ⟨-, -, -, -, e0, -, -, -⟩ := none_of hn
    obtain ⟨h1, h2, h3, h4, h5, h6⟩ := hn
    rw [e0]; clear e0
  all_goals
    go_enter Try.func91, Try.ntmps91
    go_wp2
    go_ret
    exact ⟨rfl, rfl⟩

theorem known_any (t : Int) (w : World) : Calls Try.prog 90 #[.int .i64 t] w fun e w' => e = .returned (.bool (isT t)) ∧ w = w' := by
  rcases eight t with rfl | rfl | rfl | rfl | rfl | rfl | ⟨hn, hlt⟩ | ⟨hn, hlt⟩
  case' inr.inr.inr.inr.inr.inr.inl =>
    obtain ⟨-, -, -, e0, -, -, -, -⟩ := none_of hn
    obtain ⟨h1, h2, h3, h4, h5, h6⟩ := hn
    rw [e0]; clear e0
  case' inr.inr.inr.inr.inr.inr.inr =>
    obtain ⟨-, -, -, e0, -, -, -, -⟩ := none_of hn
    obtain ⟨h1, h2, h3, h4, h5, h6⟩ := hn
    rw [e0]; clear e0
  all_goals
    go_enter Try.func90, Try.ntmps90
    go_wp2
    go_ret
    exact ⟨rfl, rfl⟩

theorem join_any (a b : Int) (w : World) : Calls Try.prog 79 #[.int .i64 a, .int .i64 b] w fun e w' => e = .returned (.int .i64 (joinF a b)) ∧ w = w' := by
  by_cases ha : isT a = true
  · by_cases hb : isT b = true
    · by_cases h6 : (a == 6) = true
      · have e0 : joinF a b = 6 := by unfold joinF; rw [ha, hb]; simp only [beq_iff_eq] at h6; simp [h6]
        rw [e0]; clear e0
        go_enter Try.func79, Try.ntmps79
        go_wp2_with (first | (go_at_call 90; refine (known_any _ _).mono ?_; rintro e w' ⟨rfl, rfl⟩))
        go_ret
        exact ⟨rfl, rfl⟩
      · have h6 : (a == 6) = false := by simpa using h6
        have e0 : joinF a b = upF b := by
          unfold joinF; simp only [beq_eq_false_iff_ne] at h6
          have hb' := hb
          unfold isT at hb'; simp only [decide_eq_true_eq] at hb'
          simp only [ha, hb, h6, Bool.and_self, if_true, false_or]; unfold upF
          by_cases h : b = 6 <;> simp [h]; omega
        rw [e0]; clear e0
        go_enter Try.func79, Try.ntmps79
        go_wp2_with (first | (go_at_call 90; refine (known_any _ _).mono ?_; rintro e w' ⟨rfl, rfl⟩) | (go_at_call 91; refine (up_any _ _).mono ?_; rintro e w' ⟨rfl, rfl⟩))
        go_ret
        exact ⟨rfl, rfl⟩
    · have hb : isT b = false := by simpa using hb
      have e0 := join_none (a := a) (b := b) (.inr hb)
      rw [e0]; clear e0
      go_enter Try.func79, Try.ntmps79
      go_wp2_with (first | (go_at_call 90; refine (known_any _ _).mono ?_; rintro e w' ⟨rfl, rfl⟩))
      go_ret
      exact ⟨rfl, rfl⟩
  · have ha : isT a = false := by simpa using ha
    have e0 := join_none (a := a) (b := b) (.inl ha)
    rw [e0]; clear e0
    go_enter Try.func79, Try.ntmps79
    go_wp2_with (first | (go_at_call 90; refine (known_any _ _).mono ?_; rintro e w' ⟨rfl, rfl⟩))
    go_ret
    exact ⟨rfl, rfl⟩


end Go.Proofs.Ythjnkjekidagiaa.Typ
