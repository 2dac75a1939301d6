/-
  Contracts of package lex's functions that look at bytes: each returns what a plain function on lists gives, and leaves the world alone. The only condition: a length below 2^62.
-/
import Derived.Test.YtoafcpbpnkfhoaaGreatDoorRows
import Derived.Test.YtoafcpbpnkfhoaaGreatDoorLexP
import Derived.Test.YtoafcpbpnkfhoaaGreatDoorBase
import Derived.WalkKit
import Derived.WalkSmall
import Derived.WalkSpells
import Derived.WalkLawsBesides
import Derived.Lib.Hide
import Derived.Lib.Strings
import Derived.Lib.Slices
import Derived.Lib.Walk
import Derived.Outline
namespace Go.Proofs.YtoafcpbpnkfhoaaGreatDoor.Lex
open Go.RowKit

theorem isLetter_any (c : UInt8) (w : World) : Calls Tryz.prog 34 #[.int .u8 c.toNat] w fun e w' => e = .returned (.bool (isLetterF c)) ∧ w = w' := by
  go_enter Tryz.func34, Tryz.ntmps34
  go_wp2
  all_goals
    go_ret
    refine ⟨ret_bool ?_, rfl⟩
    simp only [isLetterF]
    rw [Bool.eq_iff_iff]; simp; try omega

theorem isDigit_any (c : UInt8) (w : World) : Calls Tryz.prog 36 #[.int .u8 c.toNat] w fun e w' => e = .returned (.bool (isDigitF c)) ∧ w = w' := by
  go_enter Tryz.func36, Tryz.ntmps36
  go_wp2
  all_goals
    go_ret
    refine ⟨ret_bool ?_, rfl⟩
    simp only [isDigitF]
    rw [Bool.eq_iff_iff]; simp; try omega

theorem inWord_any (c : UInt8) (w : World) : Calls Tryz.prog 56 #[.int .u8 c.toNat] w fun e w' => e = .returned (.bool (inWordF c)) ∧ w = w' := by
  go_enter Tryz.func56, Tryz.ntmps56
  go_wp2
  all_goals
    go_ret
    refine ⟨ret_bool ?_, rfl⟩
    simp only [inWordF, isLetterF, isDigitF]
    rw [Bool.eq_iff_iff]; simp; try omega

theorem inLine_any (c : UInt8) (w : World) : Calls Tryz.prog 33 #[.int .u8 c.toNat] w fun e w' => e = .returned (.bool (inLineF c)) ∧ w = w' := by
  go_enter Tryz.func33, Tryz.ntmps33
  go_wp2
  all_goals
    go_ret
    refine ⟨ret_bool ?_, rfl⟩
    simp only [inLineF]
    rw [Bool.eq_iff_iff]; simp; try omega

def lst (s : ByteArray) : List UInt8 := s.data.toList
theorem lst_length (s : ByteArray) : (lst s).length = s.size := rfl
theorem lst_get (s : ByteArray) (k : Nat) (h : k < s.size) : (lst s)[k]'h = s[k]'h := rfl
theorem lst_mk (l : List UInt8) : lst ⟨l.toArray⟩ = l := rfl
theorem lst_toList (s : ByteArray) : s.toList = lst s := Lib.toList_data s
theorem lst_extract (s : ByteArray) (a b : Nat) : lst (s.extract a b) = ((lst s).drop a).take (b - a) := by
  rw [← lst_toList, Lib.extract_toList]; simp [lst, List.take_drop]
theorem lst_from (s : ByteArray) (a : Nat) : lst (s.extract a s.size) = (lst s).drop a := by
  rw [lst_extract, List.take_of_length_le (by rw [List.length_drop, lst_length]; omega)]
theorem lst_to (s : ByteArray) (b : Nat) : lst (s.extract 0 b) = (lst s).take b := by
  rw [lst_extract]; simp
theorem mk_lst (s : ByteArray) : (⟨(lst s).toArray⟩ : ByteArray) = s := by unfold lst; rw [Array.toArray_toList]
theorem eqI {c : UInt8} {n : Nat} (h : c.toNat = n) : (((c.toNat : Nat) : Int) == (n : Int)) = true := by rw [h]; simp
theorem neI {c : UInt8} {n : Nat} (h : c.toNat ≠ n) : (((c.toNat : Nat) : Int) == (n : Int)) = false := by simpa using (by omega : ¬ ((c.toNat : Int) = (n : Int)))
theorem blank_no {c : UInt8} (h : blankF c = false) : c.toNat ≠ 32 ∧ c.toNat ≠ 9 ∧ c.toNat ≠ 10 ∧ c.toNat ≠ 13 := by simpa [blankF, and_assoc] using h
theorem blank_yes {c : UInt8} (h : blankF c = true) (h1 : ((c.toNat : Int) == 32) = false) (h2 : ((c.toNat : Int) == 9) = false) (h3 : ((c.toNat : Int) == 10) = false) : ((c.toNat : Int) == 13) = true := by
  simp [blankF, or_assoc] at h; simp at h1 h2 h3; simp; omega
theorem span_all' (p : UInt8 → Bool) (s : ByteArray) (k : Nat) (hk : k ≤ spanF p (lst s)) (hlt : k < s.size) : (p s[k] = true ∧ k + 1 ≤ spanF p (lst s)) ∨ (p s[k] = false ∧ spanF p (lst s) = k) := span_all p (lst s) k hk hlt
theorem span_le' (p : UInt8 → Bool) (s : ByteArray) : spanF p (lst s) ≤ s.size := span_le p (lst s)

theorem span_isDigit (s : ByteArray) (w : World) (hl : s.size ≤ 4611686018427387904) : Calls Tryz.prog 32 #[.string s, .func (.func 36) #[] #[]] w fun e w' => e = .returned (.int .i64 (spanF isDigitF (lst s))) ∧ w = w' := by
  have hsl := span_le' isDigitF s
  go_enter Tryz.func32, Tryz.ntmps32
  go_wp2
  go_loop [5] (fun i => ∃ k : Nat, k ≤ spanF isDigitF (lst s) ∧ i = .int .i64 k) (fun i => s.size - (intOf i).toNat)
  case atStart => exact ⟨0, Nat.zero_le _, rfl⟩
  case round =>
    obtain ⟨k, hk, rfl⟩ := hrel
    by_cases hlt : k < s.size
    · rcases span_all' isDigitF s k hk hlt with ⟨h1, h2⟩ | ⟨h1, h2⟩
      · go_wp2_with (go_at_call 36; refine (isDigit_any _ _).mono ?_; rintro e w' ⟨rfl, rfl⟩)
        go_round
        case rel => exact ⟨k + 1, h2, by go_num⟩
        case measure => simp [intOf]; omega
      · have H2 := Lib.hid h2
        clear h2
        go_wp2_with (go_at_call 36; refine (isDigit_any _ _).mono ?_; rintro e w' ⟨rfl, rfl⟩)
        go_ret
        exact ⟨ret_int (by rw [H2.out]), rfl⟩
    · go_wp2_with (go_at_call 36; refine (isDigit_any _ _).mono ?_; rintro e w' ⟨rfl, rfl⟩)
      go_ret
      exact ⟨ret_int (by omega), rfl⟩

theorem span_inWord (s : ByteArray) (w : World) (hl : s.size ≤ 4611686018427387904) : Calls Tryz.prog 32 #[.string s, .func (.func 56) #[] #[]] w fun e w' => e = .returned (.int .i64 (spanF inWordF (lst s))) ∧ w = w' := by
  have hsl := span_le' inWordF s
  go_enter Tryz.func32, Tryz.ntmps32
  go_wp2
  go_loop [5] (fun i => ∃ k : Nat, k ≤ spanF inWordF (lst s) ∧ i = .int .i64 k) (fun i => s.size - (intOf i).toNat)
  case atStart => exact ⟨0, Nat.zero_le _, rfl⟩
  case round =>
    obtain ⟨k, hk, rfl⟩ := hrel
    by_cases hlt : k < s.size
    · rcases span_all' inWordF s k hk hlt with ⟨h1, h2⟩ | ⟨h1, h2⟩
      · go_wp2_with (go_at_call 56; refine (inWord_any _ _).mono ?_; rintro e w' ⟨rfl, rfl⟩)
        go_round
        case rel => exact ⟨k + 1, h2, by go_num⟩
        case measure => simp [intOf]; omega
      · have H2 := Lib.hid h2
        clear h2
        go_wp2_with (go_at_call 56; refine (inWord_any _ _).mono ?_; rintro e w' ⟨rfl, rfl⟩)
        go_ret
        exact ⟨ret_int (by rw [H2.out]), rfl⟩
    · go_wp2_with (go_at_call 56; refine (inWord_any _ _).mono ?_; rintro e w' ⟨rfl, rfl⟩)
      go_ret
      exact ⟨ret_int (by omega), rfl⟩

theorem span_inLine (s : ByteArray) (w : World) (hl : s.size ≤ 4611686018427387904) : Calls Tryz.prog 32 #[.string s, .func (.func 33) #[] #[]] w fun e w' => e = .returned (.int .i64 (spanF inLineF (lst s))) ∧ w = w' := by
  have hsl := span_le' inLineF s
  go_enter Tryz.func32, Tryz.ntmps32
  go_wp2
  go_loop [5] (fun i => ∃ k : Nat, k ≤ spanF inLineF (lst s) ∧ i = .int .i64 k) (fun i => s.size - (intOf i).toNat)
  case atStart => exact ⟨0, Nat.zero_le _, rfl⟩
  case round =>
    obtain ⟨k, hk, rfl⟩ := hrel
    by_cases hlt : k < s.size
    · rcases span_all' inLineF s k hk hlt with ⟨h1, h2⟩ | ⟨h1, h2⟩
      · go_wp2_with (go_at_call 33; refine (inLine_any _ _).mono ?_; rintro e w' ⟨rfl, rfl⟩)
        go_round
        case rel => exact ⟨k + 1, h2, by go_num⟩
        case measure => simp [intOf]; omega
      · have H2 := Lib.hid h2
        clear h2
        go_wp2_with (go_at_call 33; refine (inLine_any _ _).mono ?_; rintro e w' ⟨rfl, rfl⟩)
        go_ret
        exact ⟨ret_int (by rw [H2.out]), rfl⟩
    · go_wp2_with (go_at_call 33; refine (inLine_any _ _).mono ?_; rintro e w' ⟨rfl, rfl⟩)
      go_ret
      exact ⟨ret_int (by omega), rfl⟩

theorem gap_step' (s : ByteArray) (k : Nat) (hk : k < s.size) :
    (blankF s[k] = true ∧ gapG false ((lst s).drop k) = 1 + gapG false ((lst s).drop (k + 1))) ∨
    (blankF s[k] = false ∧ s[k].toNat = 35 ∧ gapG false ((lst s).drop k) = spanF inLineF ((lst s).drop k) + gapG false ((lst s).drop (k + spanF inLineF ((lst s).drop k))) ∧ 1 ≤ spanF inLineF ((lst s).drop k)) ∨
    (blankF s[k] = false ∧ s[k].toNat ≠ 35 ∧ gapG false ((lst s).drop k) = 0) := gap_step (lst s) k hk

set_option maxHeartbeats 400000 in
theorem gap_any (s : ByteArray) (w : World) (hl : s.size ≤ 4611686018427387904) : Calls Tryz.prog 19 #[.string s] w fun e w' => e = .returned (.int .i64 (gapG false (lst s))) ∧ w = w' := by
  go_enter Tryz.func19, Tryz.ntmps19
  go_wp2_with fail
  go_loop [3] (fun i => ∃ k : Nat, k ≤ s.size ∧ Hid (gapG false (lst s) = k + gapG false ((lst s).drop k)) ∧ i = .int .i64 k) (fun i => s.size - (intOf i).toNat)
  case atStart => exact ⟨0, Nat.zero_le _, Lib.hid (by simp), rfl⟩
  case round =>
    obtain ⟨k, hk, hg, rfl⟩ := hrel
    by_cases hlt : k < s.size
    · rcases gap_step' s k hlt with ⟨hb, hs⟩ | ⟨hb, h35, hs, h1⟩ | ⟨hb, h35, hs⟩
      · have Hs := Lib.hid hs; clear hs
        have hbl := blank_yes hb
        go_wp2_with fail
        all_goals
          go_round
          case rel => exact ⟨k + 1, by omega, Lib.hid (by rw [hg.out, Hs.out]; omega), by go_num⟩
          case measure => simp [intOf]; omega
      · have hsl := span_le' inLineF (s.extract k s.size)
        rw [← lst_from] at hs h1
        have Hs := Lib.hid hs; clear hs
        have hz : (s.extract k s.size).size = s.size - k := by simp
        rw [hz] at hsl; clear hz
        obtain ⟨n1, n2, n3, n4⟩ := blank_no hb
        have q1 := neI n1; have q2 := neI n2; have q3 := neI n3; have q4 := neI n4
        have q5 := eqI h35
        clear h35 n1 n2 n3 n4 hb
        go_wp2_with (go_at_call 32; refine (span_inLine _ _ (by simp; omega)).mono ?_; rintro e w' ⟨rfl, rfl⟩)
        go_round
        case rel => exact ⟨k + spanF inLineF (lst (s.extract k s.size)), by omega, Lib.hid (by rw [hg.out, ← lst_from, Hs.out]; omega), by go_num⟩
        case measure => simp [intOf]; omega
      · have Hs := Lib.hid hs; clear hs
        obtain ⟨n1, n2, n3, n4⟩ := blank_no hb
        have q1 := neI n1; have q2 := neI n2; have q3 := neI n3; have q4 := neI n4
        have q5 := neI h35
        clear h35 n1 n2 n3 n4 hb
        go_wp2_with fail
        go_ret
        exact ⟨ret_int (by rw [hg.out, Hs.out]; omega), rfl⟩
    · go_wp2_with fail
      go_ret
      exact ⟨ret_int (by rw [hg.out, List.drop_of_length_le (by rw [lst_length]; omega)]; simp [gapG]), rfl⟩

end Go.Proofs.YtoafcpbpnkfhoaaGreatDoor.Lex
