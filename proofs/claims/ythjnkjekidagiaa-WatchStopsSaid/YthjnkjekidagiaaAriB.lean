/-
  Contracts of package arith's functions over, undefined, takes, Do, Rel: each returns what a plain function gives, and leaves the world alone. Conditions: of over and undefined that their numbers are of a type (and, of over, that they are defined).
-/
import Derived.Test.YthjnkjekidagiaaAriA
namespace Go.Proofs.Ythjnkjekidagiaa.Typ
open Go.RowKit

theorem over_any (k a b : Int) (w : World) (hk : 6 ≤ k ∧ k ≤ 17) (ha : -2147483648 ≤ a ∧ a ≤ 4294967295) (hb : k ≤ 15 → -2147483648 ≤ b ∧ b ≤ 4294967295) (hd : k = 11 ∨ k = 12 → b ≠ 0) (hs : k = 16 ∨ k = 17 → 0 ≤ b ∧ b ≤ 31) :
    Calls Try.prog 109 #[.int .i64 k, .int .i64 a, .int .i64 b] w fun e w' => e = .returned (.bool (ovF k a b)) ∧ w = w' := by
  rcases (show k = 16 ∨ k = 12 ∨ (k ≠ 16 ∧ k ≠ 12) by omega) with rfl | rfl | ⟨h1, h2⟩
  · by_cases hn : a < 0
    · have e0 : ovF 16 a b = true := by unfold ovF; simp [hn]
      rw [e0]; clear e0
      go_enter Try.func109, Try.ntmps109
      go_wp2
      go_ret
      exact ⟨rfl, rfl⟩
    · have e0 : ovF 16 a b = !inF 5 (exV 16 a b) := by unfold ovF; simp [hn]
      rw [e0]; clear e0
      have hE := fun w => exact_any 16 a b w hk ha hb hd hs
      clear hb hd
      go_enter Try.func109, Try.ntmps109
      go_wp2_with (first | (go_at_call 106; refine (hE _).mono ?_; rintro e w' ⟨rfl, rfl⟩) | (go_at_call 108; refine (in_any _ _ _).mono ?_; rintro e w' ⟨rfl, rfl⟩))
      go_ret
      exact ⟨rfl, rfl⟩
  · have e0 : ovF 12 a b = !inF 5 (exV 11 a b) := by unfold ovF; simp
    rw [e0]; clear e0
    have hE := fun w => exact_any 11 a b w (by omega) ha (fun _ => hb (by omega)) (fun _ => hd (by omega)) (fun h => absurd h (by omega))
    clear hb hd hs
    go_enter Try.func109, Try.ntmps109
    go_wp2_with (first | (go_at_call 106; refine (hE _).mono ?_; rintro e w' ⟨rfl, rfl⟩) | (go_at_call 108; refine (in_any _ _ _).mono ?_; rintro e w' ⟨rfl, rfl⟩))
    go_ret
    exact ⟨rfl, rfl⟩
  · have e0 : ovF k a b = !inF 5 (exV k a b) := by unfold ovF; simp [h1, h2]
    rw [e0]; clear e0
    have hE := fun w => exact_any k a b w hk ha hb hd hs
    clear hb hd hs
    have h1' : (k == 16) = false := by simpa using h1
    have h2' : (k == 12) = false := by simpa using h2
    clear h1 h2
    go_enter Try.func109, Try.ntmps109
    go_wp2_with (first | (go_at_call 106; refine (hE _).mono ?_; rintro e w' ⟨rfl, rfl⟩) | (go_at_call 108; refine (in_any _ _ _).mono ?_; rintro e w' ⟨rfl, rfl⟩))
    go_ret
    exact ⟨rfl, rfl⟩

theorem undef_any (k t a b : Int) (w : World) (ht : t = 5 ∨ t = 6) (hk : 6 ≤ k ∧ k ≤ 17) (ha : -2147483648 ≤ a ∧ a ≤ 4294967295) (hb : k ≤ 15 → -2147483648 ≤ b ∧ b ≤ 4294967295) :
    Calls Try.prog 105 #[.int .i64 k, .int .i64 t, .int .i64 a, .int .i64 b] w fun e w' => e = .returned (.int .i64 (udF k t a b)) ∧ w = w' := by
  by_cases h0 : (k = 11 ∨ k = 12) ∧ b = 0
  · have e0 : udF k t a b = 2 := by unfold udF; simp [h0]
    rw [e0]; clear e0 hb
    obtain ⟨rfl | rfl, rfl⟩ := h0
    all_goals
      go_enter Try.func105, Try.ntmps105
      go_wp2
      go_ret
      exact ⟨rfl, rfl⟩
  by_cases h1 : (k = 16 ∨ k = 17) ∧ (b < 0 ∨ 31 < b)
  · have e0 : udF k t a b = 3 := by unfold udF; simp [h0, h1]
    rw [e0]; clear e0 hb h0
    obtain ⟨rfl | rfl, h | h⟩ := h1
    all_goals
      go_enter Try.func105, Try.ntmps105
      go_wp2
      go_ret
      exact ⟨rfl, rfl⟩
  have hE := fun w => over_any k a b w hk ha hb (by omega) (by omega)
  have e0 : udF k t a b = if t = 5 ∧ ovF k a b = true then 1 else 0 := by unfold udF; simp [h0, h1]
  rw [e0]; clear e0 hb
  rcases (show (k = 11 ∧ b ≠ 0) ∨ (k = 12 ∧ b ≠ 0) ∨ (k = 16 ∧ 0 ≤ b ∧ b ≤ 31) ∨ (k = 17 ∧ 0 ≤ b ∧ b ≤ 31) ∨ (k ≠ 11 ∧ k ≠ 12 ∧ k ≠ 16 ∧ k ≠ 17) by omega) with ⟨rfl, g⟩ | ⟨rfl, g⟩ | ⟨rfl, g⟩ | ⟨rfl, g⟩ | ⟨g1, g2, g3, g4⟩
  case' inl => replace g : (b == 0) = false := by simpa using g
  case' inr.inl => replace g : (b == 0) = false := by simpa using g
  case' inr.inr.inr.inr =>
    replace g1 : (k == 11) = false := by simpa using g1
    replace g2 : (k == 12) = false := by simpa using g2
    replace g3 : (k == 16) = false := by simpa using g3
    replace g4 : (k == 17) = false := by simpa using g4
  all_goals
    clear h0 h1
    rcases ht with rfl | rfl
    · cases ho : ovF _ a b
      all_goals
        go_enter Try.func105, Try.ntmps105
        go_wp2_with (first | (go_at_call 109; refine (hE _).mono ?_; rintro e w' ⟨rfl, rfl⟩))
        go_ret
        exact ⟨rfl, rfl⟩
    · clear hE
      go_enter Try.func105, Try.ntmps105
      go_wp2
      go_ret
      exact ⟨rfl, rfl⟩
end Go.Proofs.Ythjnkjekidagiaa.Typ
