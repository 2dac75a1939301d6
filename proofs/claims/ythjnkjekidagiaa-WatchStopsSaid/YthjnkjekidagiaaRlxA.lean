/-
  Contracts of the document's answer's letter, digit, Read, Key: each returns what a plain function on lists gives; what was there stays. No condition.
-/
import Derived.Test.YthjnkjekidagiaaRows
import Derived.Test.YthjnkjekidagiaaLst
import Derived.Test.YthjnkjekidagiaaTypR
import Derived.WalkKit
import Derived.WalkSmall
import Derived.WalkSpells
import Derived.WalkLawsBesides
import Derived.Outline
namespace Go.Proofs.Ythjnkjekidagiaa.Lex
open Go.RowKit

theorem rletter_any (c : UInt8) (w : World) : Calls Try.prog 44 #[.int .u8 c.toNat] w fun e w' => e = .returned (.bool (isLetterF c)) ∧ w = w' := by
  go_enter Try.func44, Try.ntmps44
  go_wp2
  all_goals
    go_ret
    refine ⟨ret_bool ?_, rfl⟩
    simp only [isLetterF]
    rw [Bool.eq_iff_iff]; simp; try omega
theorem rdigit_any (c : UInt8) (w : World) : Calls Try.prog 45 #[.int .u8 c.toNat] w fun e w' => e = .returned (.bool (isDigitF c)) ∧ w = w' := by
  go_enter Try.func45, Try.ntmps45
  go_wp2
  all_goals
    go_ret
    refine ⟨ret_bool ?_, rfl⟩
    simp only [isDigitF]
    rw [Bool.eq_iff_iff]; simp; try omega
theorem rread_v (s : ByteArray) (w : World) (v : Int) (h : Typ.readF (lst s) = v) : Calls Try.prog 61 #[.string s] w fun e w' => e = .returned (.int .i64 v) ∧ Kept w w' := by
  have := Typ.rread_any s w
  rw [lst_toList, h] at this
  exact this

set_option maxHeartbeats 2000000 in
theorem rkey_yes (s : ByteArray) (w : World) (h : isKeyF (lst s) = true) : Calls Try.prog 46 #[.string s] w fun e w' => e = .returned (.bool true) ∧ Kept w w' := by
  have hk := key_cases _ h
  clear h
  rcases hk with h | h | h | h | h | h | h | h | h | h | h | h | h | h | h | h | h | h | h | h | h | h | h | h | h | h | h | h
  all_goals
    obtain rfl := lit_of h
    clear h
    go_enter Try.func46, Try.ntmps46
    go_wp2_with (go_at_call 61; (first | refine (rread_v _ _ 1 (by decide)).mono ?_ | refine (rread_v _ _ 2 (by decide)).mono ?_ | refine (rread_v _ _ 3 (by decide)).mono ?_ | refine (rread_v _ _ 4 (by decide)).mono ?_ | refine (rread_v _ _ 5 (by decide)).mono ?_ | refine (rread_v _ _ 6 (by decide)).mono ?_); rintro e w' ⟨rfl, hkk⟩)
    go_ret
    first | exact ⟨rfl, Kept.refl _⟩ | exact ⟨rfl, hkk⟩
set_option maxHeartbeats 1000000 in
theorem rkey_no (s : ByteArray) (w : World) (h : isKeyF (lst s) = false) : Calls Try.prog 46 #[.string s] w fun e w' => e = .returned (.bool false) ∧ Kept w w' := by
  have H := Lib.hid (fun k hk => contains_no (ks := keyWords) (l := lst s) h k hk)
  clear h
  have hr : Typ.readF (lst s) = 0 := by
    have f := fun k hk => beq_eq_false_iff_ne.1 (H.out k hk)
    unfold Typ.readF
    rw [if_neg (f _ (by decide)), if_neg (f _ (by decide)), if_neg (f _ (by decide)), if_neg (f _ (by decide)), if_neg (f _ (by decide)), if_neg (f _ (by decide))]
  have k0 : (s.toList == [103, 108, 111, 98, 97, 108]) = false := by rw [lst_toList]; exact H.out _ (by decide)
  have k1 : (s.toList == [102, 110]) = false := by rw [lst_toList]; exact H.out _ (by decide)
  have k2 : (s.toList == [114, 101, 113, 117, 105, 114, 101, 115]) = false := by rw [lst_toList]; exact H.out _ (by decide)
  have k3 : (s.toList == [101, 110, 115, 117, 114, 101, 115]) = false := by rw [lst_toList]; exact H.out _ (by decide)
  have k4 : (s.toList == [97, 115, 115, 105, 103, 110, 115]) = false := by rw [lst_toList]; exact H.out _ (by decide)
  have k5 : (s.toList == [110, 111, 116, 104, 105, 110, 103]) = false := by rw [lst_toList]; exact H.out _ (by decide)
  have k6 : (s.toList == [108, 101, 116]) = false := by rw [lst_toList]; exact H.out _ (by decide)
  have k7 : (s.toList == [99, 97, 108, 108]) = false := by rw [lst_toList]; exact H.out _ (by decide)
  have k8 : (s.toList == [105, 102]) = false := by rw [lst_toList]; exact H.out _ (by decide)
  have k9 : (s.toList == [101, 108, 115, 101]) = false := by rw [lst_toList]; exact H.out _ (by decide)
  have k10 : (s.toList == [119, 104, 105, 108, 101]) = false := by rw [lst_toList]; exact H.out _ (by decide)
  have k11 : (s.toList == [105, 110, 118, 97, 114, 105, 97, 110, 116]) = false := by rw [lst_toList]; exact H.out _ (by decide)
  have k12 : (s.toList == [98, 114, 101, 97, 107]) = false := by rw [lst_toList]; exact H.out _ (by decide)
  have k13 : (s.toList == [99, 111, 110, 116, 105, 110, 117, 101]) = false := by rw [lst_toList]; exact H.out _ (by decide)
  have k14 : (s.toList == [114, 101, 116, 117, 114, 110]) = false := by rw [lst_toList]; exact H.out _ (by decide)
  have k15 : (s.toList == [97, 115, 115, 101, 114, 116]) = false := by rw [lst_toList]; exact H.out _ (by decide)
  have k16 : (s.toList == [105, 110, 112, 117, 116]) = false := by rw [lst_toList]; exact H.out _ (by decide)
  have k17 : (s.toList == [111, 108, 100]) = false := by rw [lst_toList]; exact H.out _ (by decide)
  have k18 : (s.toList == [114, 101, 115, 117, 108, 116]) = false := by rw [lst_toList]; exact H.out _ (by decide)
  have k19 : (s.toList == [110, 111, 116]) = false := by rw [lst_toList]; exact H.out _ (by decide)
  have k20 : (s.toList == [97, 110, 100]) = false := by rw [lst_toList]; exact H.out _ (by decide)
  have k21 : (s.toList == [111, 114]) = false := by rw [lst_toList]; exact H.out _ (by decide)
  clear H
  go_enter Try.func46, Try.ntmps46
  go_wp2_with (go_at_call 61; refine (rread_v _ _ 0 hr).mono ?_; rintro e w' ⟨rfl, hkk⟩)
  go_ret
  exact ⟨rfl, hkk⟩
theorem rkey_any (s : ByteArray) (w : World) : Calls Try.prog 46 #[.string s] w fun e w' => e = .returned (.bool (isKeyF (lst s))) ∧ Kept w w' := by
  cases h : isKeyF (lst s)
  · exact rkey_no s w h
  · exact rkey_yes s w h
end Go.Proofs.Ythjnkjekidagiaa.Lex
