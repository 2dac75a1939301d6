/-
  Contracts of typ.Join, typ.Read and of the document's answer for them, and of the laws' own awake(): each returns what a plain function gives, and leaves the world alone (or only makes new memory). No condition.
-/
import Derived.Test.YtakcnaahgcfkkaaTypB
import Derived.Test.YtakcnaahgcfkkaaBase
import Derived.Lib.Hide
namespace Go.Proofs.Ytakcnaahgcfkkaa.Typ
open Go.RowKit

theorem join_any (a b : Int) (w : World) : Calls Try.prog 17 #[.int .i64 a, .int .i64 b] w fun e w' => e = .returned (.int .i64 (joinF a b)) ∧ w = w' := by
  by_cases ha : isT a = true
  · by_cases hb : isT b = true
    · by_cases h6 : (a == 6) = true
      · have e0 : joinF a b = 6 := by unfold joinF; rw [ha, hb]; simp only [beq_iff_eq] at h6; simp [h6]
        rw [e0]; clear e0
        go_enter Try.func17, Try.ntmps17
        go_wp2_with (first | (go_at_call 28; refine (known_any _ _).mono ?_; rintro e w' ⟨rfl, rfl⟩))
        go_ret
        exact ⟨rfl, rfl⟩
      · have h6 : (a == 6) = false := by simpa using h6
        have e0 : joinF a b = upF b := by
          unfold joinF; simp only [beq_eq_false_iff_ne] at h6
          have hb' := hb
          unfold isT at hb'; simp only [decide_eq_true_eq] at hb'
          simp only [ha, hb, h6, Bool.and_self, if_true, false_or]; unfold upF
          by_cases h : b = 6 <;> simp [h]; omega
        rw [e0]; clear e0
        go_enter Try.func17, Try.ntmps17
        go_wp2_with (first | (go_at_call 28; refine (known_any _ _).mono ?_; rintro e w' ⟨rfl, rfl⟩) | (go_at_call 15; refine (up_any _ _).mono ?_; rintro e w' ⟨rfl, rfl⟩))
        go_ret
        exact ⟨rfl, rfl⟩
    · have hb : isT b = false := by simpa using hb
      have e0 := join_none (a := a) (b := b) (.inr hb)
      rw [e0]; clear e0
      go_enter Try.func17, Try.ntmps17
      go_wp2_with (first | (go_at_call 28; refine (known_any _ _).mono ?_; rintro e w' ⟨rfl, rfl⟩))
      go_ret
      exact ⟨rfl, rfl⟩
  · have ha : isT a = false := by simpa using ha
    have e0 := join_none (a := a) (b := b) (.inl ha)
    rw [e0]; clear e0
    go_enter Try.func17, Try.ntmps17
    go_wp2_with (first | (go_at_call 28; refine (known_any _ _).mono ?_; rintro e w' ⟨rfl, rfl⟩))
    go_ret
    exact ⟨rfl, rfl⟩

theorem bits_isT (t : Int) : (isT t = true ∧ (bitsF t == 0) = false) ∨ (isT t = false ∧ (bitsF t == 0) = true) := by
  rcases eight t with rfl | rfl | rfl | rfl | rfl | rfl | ⟨hn, hlt⟩ | ⟨hn, hlt⟩
  all_goals first | (left; decide) | (right; exact ⟨(none_of hn).2.2.2.1, by rw [(none_of hn).1]; decide⟩)

theorem rjoin_any (a b : Int) (w : World) : Calls Try.prog 18 #[.int .i64 a, .int .i64 b] w fun e w' => e = .returned (.int .i64 (joinF a b)) ∧ w = w' := by
  rcases bits_isT a with ⟨ha, ha'⟩ | ⟨ha, ha'⟩
  · rcases bits_isT b with ⟨hb, hb'⟩ | ⟨hb, hb'⟩
    · have e0 : joinF a b = if a = 6 ∨ b = 6 then 6 else 5 := by unfold joinF; simp [ha, hb]
      rw [e0]; clear e0 ha hb
      by_cases h6 : a = 6
      · rw [if_pos (.inl h6)]
        have h6' : (a == 6) = true := by simpa using h6
        clear h6
        go_enter Try.func18, Try.ntmps18
        go_wp2_with (first | (go_at_call 26; refine (rbits_any _ _).mono ?_; rintro e w' ⟨rfl, rfl⟩))
        go_ret
        exact ⟨rfl, rfl⟩
      · have h6' : (a == 6) = false := by simpa using h6
        by_cases g6 : b = 6
        · rw [if_pos (.inr g6)]
          have g6' : (b == 6) = true := by simpa using g6
          clear h6 g6
          go_enter Try.func18, Try.ntmps18
          go_wp2_with (first | (go_at_call 26; refine (rbits_any _ _).mono ?_; rintro e w' ⟨rfl, rfl⟩))
          go_ret
          exact ⟨rfl, rfl⟩
        · rw [if_neg (by simp [h6, g6])]
          have g6' : (b == 6) = false := by simpa using g6
          clear h6 g6
          go_enter Try.func18, Try.ntmps18
          go_wp2_with (first | (go_at_call 26; refine (rbits_any _ _).mono ?_; rintro e w' ⟨rfl, rfl⟩))
          go_ret
          exact ⟨rfl, rfl⟩
    · have e0 := join_none (a := a) (b := b) (.inr hb)
      rw [e0]; clear e0 ha hb
      go_enter Try.func18, Try.ntmps18
      go_wp2_with (first | (go_at_call 26; refine (rbits_any _ _).mono ?_; rintro e w' ⟨rfl, rfl⟩))
      go_ret
      exact ⟨rfl, rfl⟩
  · have e0 := join_none (a := a) (b := b) (.inl ha)
    rw [e0]; clear e0 ha
    go_enter Try.func18, Try.ntmps18
    go_wp2_with (first | (go_at_call 26; refine (rbits_any _ _).mono ?_; rintro e w' ⟨rfl, rfl⟩))
    go_ret
    exact ⟨rfl, rfl⟩

theorem awake_any (w : World) : Calls Try.prog 23 #[] w fun e w' => e = .returned (.bool true) ∧ w = w' := by
  go_enter Try.func23, Try.ntmps23
  go_wp2_with (first | (go_at_call 13; refine (wrap_any _ _ _).mono ?_; rintro e w' ⟨rfl, rfl⟩))
  go_ret
  exact ⟨ret_bool (by decide), rfl⟩

theorem read_any (s : ByteArray) (w : World) : Calls Try.prog 21 #[.string s] w fun e w' => e = .returned (.int .i64 (readF s.toList)) ∧ w = w' := by
  go_enter Try.func21, Try.ntmps21
  go_wp2
  all_goals
    go_ret
    exact ⟨ret_int (by simp_all [readF]), rfl⟩

theorem rname_any (t : Int) (w : World) : Calls Try.prog 20 #[.int .i64 t] w fun e w' => e = .returned (.string ⟨(nameF t).toArray⟩) ∧ Kept w w' := by
  rcases eight t with rfl | rfl | rfl | rfl | rfl | rfl | ⟨hn, hlt⟩ | ⟨hn, hlt⟩
  case' inr.inr.inr.inr.inr.inr.inl =>
    obtain ⟨-, -, -, -, -, e0, -, -⟩ := none_of hn
    obtain ⟨h1, h2, h3, h4, h5, h6⟩ := hn
    rw [e0]; clear e0
  case' inr.inr.inr.inr.inr.inr.inr =>
    obtain ⟨-, -, -, -, -, e0, -, -⟩ := none_of hn
    obtain ⟨h1, h2, h3, h4, h5, h6⟩ := hn
    rw [e0]; clear e0
  all_goals
    go_enter Try.func20, Try.ntmps20
    go_wp2
    go_ret
    exact ⟨rfl, by repeat (first | exact Kept.refl _ | apply Kept.drew | apply Kept.alloc)⟩

set_option maxHeartbeats 400000 in
theorem rread_any (s : ByteArray) (w : World) : Calls Try.prog 22 #[.string s] w fun e w' => e = .returned (.int .i64 (readF s.toList)) ∧ Kept w w' := by
  go_enter Try.func22, Try.ntmps22
  go_wp2
  go_loopw [3] (fun i wx => ∃ k : Nat, 1 ≤ k ∧ k ≤ 7 ∧ i = .int .i64 k ∧ Kept w wx ∧ ∀ j : Nat, 1 ≤ j → j < k → nameF j ≠ s.toList) (fun i _ => 7 - (intOf i).toNat)
  case atStart => exact ⟨1, by omega, by omega, rfl, Kept.refl _, fun j h1 h2 => by omega⟩
  case round =>
    obtain ⟨k, h1, h7, rfl, hg, hall⟩ := hrel
    have HA := Lib.hid hall
    have HG := Lib.hid hg
    clear hall hg
    by_cases hlt : k ≤ 6
    · go_wp2_with (go_at_call 20; refine (rname_any _ _).mono ?_; rintro e w' ⟨rfl, hg'⟩)
      · go_ret
        exact ⟨ret_int (by rw [← beq_iff_eq.1 (by assumption : (nameF ↑k == s.toList) = true)]; exact (read_name k h1 hlt).symm), Kept.trans HG.out hg'⟩
      · refine ⟨⟨k + 1, by omega, by omega, by go_num, Kept.trans HG.out hg', fun j a b => ?_⟩, by simp [intOf]; omega⟩
        by_cases hj : j = k
        · subst hj; exact beq_eq_false_iff_ne.1 (by assumption : (nameF ↑j == s.toList) = false)
        · exact HA.out j a (by omega)
    · go_wp2
      go_ret
      obtain rfl : k = 7 := by omega
      exact ⟨ret_int (read_none _ HA.out).symm, HG.out⟩
end Go.Proofs.Ytakcnaahgcfkkaa.Typ
