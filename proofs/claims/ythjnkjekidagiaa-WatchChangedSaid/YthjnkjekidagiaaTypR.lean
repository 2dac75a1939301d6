/-
  Contracts of the document's answer's bits, Max, Name, Read (layer 1), for a seat without layer 1's rows. No condition.
-/
import Derived.Test.YthjnkjekidagiaaBase
import Derived.Test.YthjnkjekidagiaaRows
import Derived.Test.YthjnkjekidagiaaPlain
import Derived.WalkKit
import Derived.WalkSpells
import Derived.WalkLawsBesides
import Derived.IntWalk
import Derived.Outline
import Derived.Lib.Hide
namespace Go.Proofs.Ythjnkjekidagiaa.Typ
open Go.RowKit

theorem rbits_any (t : Int) (w : World) : Calls Try.prog 76 #[.int .i64 t] w fun e w' => e = .returned (.int .i64 (bitsF t)) ∧ w = w' := by
  rcases eight t with rfl | rfl | rfl | rfl | rfl | rfl | ⟨hn, hlt⟩ | ⟨hn, hlt⟩
  case' inr.inr.inr.inr.inr.inr.inl =>
    obtain ⟨e0, -, -, -, -, -, -, -⟩ := none_of hn
    obtain ⟨h1, h2, h3, h4, h5, h6⟩ := hn
    rw [e0]; clear e0
  case' inr.inr.inr.inr.inr.inr.inr =>
    obtain ⟨e0, -, -, -, -, -, -, -⟩ := none_of hn
    obtain ⟨h1, h2, h3, h4, h5, h6⟩ := hn
    rw [e0]; clear e0
  all_goals
    go_enter Try.func76, Try.ntmps76
    go_wp2
    go_ret
    exact ⟨rfl, rfl⟩

theorem rmax_any (t : Int) (w : World) : Calls Try.prog 69 #[.int .i64 t] w fun e w' => e = .returned (.int .i64 (maxF t)) ∧ w = w' := by
  rcases eight t with rfl | rfl | rfl | rfl | rfl | rfl | ⟨hn, hlt⟩ | ⟨hn, hlt⟩
  case' inr.inr.inr.inr.inr.inr.inl =>
    obtain ⟨-, -, e0, -, -, -, -, -⟩ := none_of hn
    obtain ⟨h1, h2, h3, h4, h5, h6⟩ := hn
    rw [e0]; clear e0
  case' inr.inr.inr.inr.inr.inr.inr =>
    obtain ⟨-, -, e0, -, -, -, -, -⟩ := none_of hn
    obtain ⟨h1, h2, h3, h4, h5, h6⟩ := hn
    rw [e0]; clear e0
  all_goals
    go_enter Try.func69, Try.ntmps69
    go_wp2
    go_ret
    exact ⟨rfl, rfl⟩

theorem rname_any (t : Int) (w : World) : Calls Try.prog 68 #[.int .i64 t] w fun e w' => e = .returned (.string ⟨(nameF t).toArray⟩) ∧ Kept w w' := by
  rcases eight t with rfl | rfl | rfl | rfl | rfl | rfl | ⟨hn, hlt⟩ | ⟨hn, hlt⟩
  case' inr.inr.inr.inr.inr.inr.inl =>
    obtain ⟨-, -, -, -, -, e0, -, -⟩ := none_of hn
    obtain ⟨h1, h2, h3, h4, h5, h6⟩ := hn
    rw [e0]; clear e0
  case' inr.inr.inr.inr.inr.inr.inr =>
    obtain ⟨-, -, -, -, -, e0, -, -⟩ := none_of hn
    obtain ⟨h1, h2, h3, h4, h5, h6⟩ := hn
    rw [e0]; clear e0
  all_goals
    go_enter Try.func68, Try.ntmps68
    go_wp2
    go_ret
    exact ⟨rfl, by repeat (first | exact Kept.refl _ | apply Kept.drew | apply Kept.alloc)⟩

set_option maxHeartbeats 400000 in
theorem rread_any (s : ByteArray) (w : World) : Calls Try.prog 61 #[.string s] w fun e w' => e = .returned (.int .i64 (readF s.toList)) ∧ Kept w w' := by
  go_enter Try.func61, Try.ntmps61
  go_wp2
  go_loopw [3] (fun i wx => ∃ k : Nat, 1 ≤ k ∧ k ≤ 7 ∧ i = .int .i64 k ∧ Kept w wx ∧ ∀ j : Nat, 1 ≤ j → j < k → nameF j ≠ s.toList) (fun i _ => 7 - (intOf i).toNat)
  case atStart => exact ⟨1, by omega, by omega, rfl, Kept.refl _, fun j h1 h2 => by omega⟩
  case round =>
    obtain ⟨k, h1, h7, rfl, hg, hall⟩ := hrel
    have HA := Lib.hid hall
    have HG := Lib.hid hg
    clear hall hg
    by_cases hlt : k ≤ 6
    · go_wp2_with (go_at_call 68; refine (rname_any _ _).mono ?_; rintro e w' ⟨rfl, hg'⟩)
      · go_ret
        exact ⟨ret_int (by rw [← beq_iff_eq.1 (by assumption : (nameF ↑k == s.toList) = true)]; exact (read_name k h1 hlt).symm), Kept.trans HG.out hg'⟩
      · refine ⟨⟨k + 1, by omega, by omega, by go_num, Kept.trans HG.out hg', fun j a b => ?_⟩, by simp [intOf]; omega⟩
        by_cases hj : j = k
        · subst hj; exact beq_eq_false_iff_ne.1 (by assumption : (nameF ↑j == s.toList) = false)
        · exact HA.out j a (by omega)
    · go_wp2
      go_ret
      obtain rfl : k = 7 := by omega
      exact ⟨ret_int (read_none _ HA.out).symm, HG.out⟩
end Go.Proofs.Ythjnkjekidagiaa.Typ
