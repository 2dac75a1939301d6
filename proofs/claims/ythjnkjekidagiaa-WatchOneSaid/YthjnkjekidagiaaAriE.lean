/-
  Contracts of arith.takes, arith.Do, arith.Rel: each returns what a plain function gives, and leaves the world alone. No condition.
-/
import Derived.Test.YthjnkjekidagiaaAriB
import Derived.Test.YthjnkjekidagiaaAriQ
namespace Go.Proofs.Ythjnkjekidagiaa.Typ
open Go.RowKit

set_option maxHeartbeats 4000000 in
theorem takes_any (k t a b : Int) (w : World) :
    Calls Try.prog 104 #[.int .i64 k, .int .i64 t, .int .i64 a, .int .i64 b] w fun e w' => e = .returned (.bool (tkF k t a b)) ∧ w = w' := by
  by_cases ht : t = 5 ∨ t = 6
  case' neg =>
    have e0 : tkF k t a b = false := by unfold tkF; simp [ht]
    have h5 : (t == 5) = false := by simp only [beq_eq_false_iff_ne]; omega
    have h6 : (t == 6) = false := by simp only [beq_eq_false_iff_ne]; omega
    have h5' : (t != 5) = true := by simp only [bne_iff_ne]; omega
    have h6' : (t != 6) = true := by simp only [bne_iff_ne]; omega
    rw [e0]; clear e0 ht
    go_enter Try.func104, Try.ntmps104
    go_wp2
    go_ret
    exact ⟨rfl, rfl⟩
  rcases (show k = 16 ∨ k = 17 ∨ (6 ≤ k ∧ k ≤ 15) ∨ (k < 6 ∨ 17 < k) by omega) with hk | hk | hk | hk
  · have e0 : tkF k t a b = inF t a := by subst hk; unfold tkF; simp [ht]
    rw [e0]; clear e0
    rcases ht with rfl | rfl
    all_goals
      subst hk
      go_enter Try.func104, Try.ntmps104
      go_wp2_with (first | (go_at_call 108; refine (in_any _ _ _).mono ?_; rintro e w' ⟨rfl, rfl⟩))
      go_ret
      exact ⟨rfl, rfl⟩
  · have e0 : tkF k t a b = inF t a := by subst hk; unfold tkF; simp [ht]
    rw [e0]; clear e0
    rcases ht with rfl | rfl
    all_goals
      subst hk
      go_enter Try.func104, Try.ntmps104
      go_wp2_with (first | (go_at_call 108; refine (in_any _ _ _).mono ?_; rintro e w' ⟨rfl, rfl⟩))
      go_ret
      exact ⟨rfl, rfl⟩
  · have e0 : tkF k t a b = (inF t b && inF t a) := by
      unfold tkF
      cases inF t b <;> cases inF t a <;> simp [ht, hk] <;> omega
    rw [e0]; clear e0
    rcases kinds k with rfl | rfl | rfl | rfl | rfl | rfl | rfl | rfl | rfl | rfl | rfl | rfl | ⟨-, hh⟩
    case' inr.inr.inr.inr.inr.inr.inr.inr.inr.inr.inr.inr => omega
    case' inr.inr.inr.inr.inr.inr.inr.inr.inr.inr.inl => omega
    case' inr.inr.inr.inr.inr.inr.inr.inr.inr.inr.inr.inl => omega
    all_goals
      clear hk
      cases hb : inF t b
      all_goals
        rcases ht with rfl | rfl
        all_goals
          go_enter Try.func104, Try.ntmps104
          go_wp2_with (first | (go_at_call 108; refine (in_any _ _ _).mono ?_; rintro e w' ⟨rfl, rfl⟩))
          go_ret
          exact ⟨rfl, rfl⟩
  · have e0 : tkF k t a b = false := by unfold tkF; simp; intros; omega
    obtain ⟨k1, k2, k3, k4, k5, k6, k7, k8, k9, k10, k11, k12⟩ : NoK k := by unfold NoK; simp only [beq_eq_false_iff_ne]; omega
    rw [e0]; clear e0 hk
    rcases ht with rfl | rfl
    all_goals
      go_enter Try.func104, Try.ntmps104
      go_wp2
      go_ret
      exact ⟨rfl, rfl⟩

theorem do_any (k t a b : Int) (w : World) :
    Calls Try.prog 102 #[.int .i64 k, .int .i64 t, .int .i64 a, .int .i64 b] w fun e w' => e = .returned (.tuple #[.int .i64 (doV k t a b), .int .i64 (doU k t a b)]) ∧ w = w' := by
  have hT := fun w => takes_any k t a b w
  cases h : tkF k t a b
  · obtain ⟨e0, e1⟩ := do_no h
    rw [e0, e1]; clear e0 e1
    go_enter Try.func102, Try.ntmps102
    go_wp2_with (first | (go_at_call 104; refine (hT _).mono ?_; rintro e w' ⟨rfl, rfl⟩))
    go_ret2
    exact ⟨rfl, rfl⟩
  · obtain ⟨h1, h2, h3, h4⟩ := tk_of h
    have ha := wide h1 h2
    have hb : k ≤ 15 → -2147483648 ≤ b ∧ b ≤ 4294967295 := fun hh => wide h1 (h4 hh)
    have hU := fun w => undef_any k t a b w h1 h3 ha hb
    by_cases h' : udF k t a b = 0
    · obtain ⟨e0, e1⟩ := do_ok h h'
      rw [e0, e1]; clear e0 e1
      obtain ⟨g1, g2⟩ := ud_of h'
      have hX := fun w => exact_any k a b w h3 ha hb g1 g2
      clear hb g1 g2 h4
      go_enter Try.func102, Try.ntmps102
      go_wp2_with (first | (go_at_call 104; refine (hT _).mono ?_; rintro e w' ⟨rfl, rfl⟩) | (go_at_call 105; refine (hU _).mono ?_; rintro e w' ⟨rfl, rfl⟩) | (go_at_call 106; refine (hX _).mono ?_; rintro e w' ⟨rfl, rfl⟩) | (go_at_call 29; refine (wrap_any _ _ _).mono ?_; rintro e w' ⟨rfl, rfl⟩))
      go_ret2
      exact ⟨rfl, rfl⟩
    · obtain ⟨e0, e1⟩ := do_bad h h'
      rw [e0, e1]; clear e0 e1 hb h4
      replace h' : (udF k t a b == 0) = false := by simpa using h'
      go_enter Try.func102, Try.ntmps102
      go_wp2_with (first | (go_at_call 104; refine (hT _).mono ?_; rintro e w' ⟨rfl, rfl⟩) | (go_at_call 105; refine (hU _).mono ?_; rintro e w' ⟨rfl, rfl⟩))
      go_ret2
      exact ⟨rfl, rfl⟩
theorem rel_none {r a b : Int} (h : NoT r) : relF r a b = false := by
  obtain ⟨h1, h2, h3, h4, h5, h6⟩ := h
  simp only [beq_eq_false_iff_ne] at h1 h2 h3 h4 h5 h6
  unfold relF; simp only [h1, h2, h3, h4, h5, h6, if_false]
theorem rel_any (r a b : Int) (w : World) : Calls Try.prog 75 #[.int .i64 r, .int .i64 a, .int .i64 b] w fun e w' => e = .returned (.bool (relF r a b)) ∧ w = w' := by
  rcases eight r with rfl | rfl | rfl | rfl | rfl | rfl | ⟨hn, hh⟩ | ⟨hn, hh⟩
  case' inr.inr.inr.inr.inr.inr.inl =>
    rw [rel_none hn]
    obtain ⟨h1, h2, h3, h4, h5, h6⟩ := hn
  case' inr.inr.inr.inr.inr.inr.inr =>
    rw [rel_none hn]
    obtain ⟨h1, h2, h3, h4, h5, h6⟩ := hn
  all_goals
    go_enter Try.func75, Try.ntmps75
    go_wp2
    go_ret
    exact ⟨rfl, rfl⟩
end Go.Proofs.Ythjnkjekidagiaa.Typ
