/-
  The document's answer's lexer, of any text: Number, sign, number: that they end, and what a good answer says. (No relation to a plain function.)
  The document's answer's lexer, of any text: sign, Lex: that they end, and what tokens there are, if there is no error.
  The document's answer's reader, with or without an error so far: fail, here, is, take, want, open: that they end, what they leave.
  What stands ahead of a call of the document's answer's parser that reads into a list of nodes (SIn), and between (SMid), with or without an error; inner and expr out of row.
  unary of the document's answer's parser, with or without an error, out of itself and of inner where less is left to read.
  row, expr, inner, unary of the document's answer's parser, with or without an error, whatever is left to read.
  Conditions of the document's answer's parser, with or without an error: what stands ahead of a call that reads into a list of them (SCIn), and between (SCMid); one, both, cond, whatever is left to read.
  Cond of the document's answer's parser, of any text: it ends; what it hands back has kids ahead of their nodes; beside an error it is nothing.
-/
import Derived.Test.YtnlkcjbnmkpnhaaRlxN
import Derived.Test.YtnlkcjbnmkpnhaaRlxL
import Derived.Test.YtnlkcjbnmkpnhaaRrdA
import Derived.Deep.Cut
import Derived.Deep.RegionHeld3
import Derived.Test.YtnlkcjbnmkpnhaaRrdE
import Derived.Test.YtnlkcjbnmkpnhaaRrdG
import Derived.Test.YtnlkcjbnmkpnhaaRrdF
import Derived.Test.YtnlkcjbnmkpnhaaRrdJ
import Derived.Test.YtnlkcjbnmkpnhaaRrdK
namespace Go.Proofs.Ytnlkcjbnmkpnhaa.Lex
open Go.RowKit

theorem pow_ten {k : Nat} (h : k ≤ 9) : 10 ^ k ≤ 1000000000 := by
  have := Nat.pow_le_pow_right (n := 10) (by omega) h
  simpa using this
/-- What Number tells of any text. -/
def NumOut (s : ByteArray) (e : Ending) : Prop := ∃ (v t : Nat) (b : Bool), e = .returned (.tuple #[.int .i64 v, .int .i64 t, .bool b]) ∧ v ≤ 9999999999 ∧ t ≤ 6 ∧ (b = true → 0 < s.size)
theorem NumOut.no (s : ByteArray) : NumOut s (.returned (.tuple #[.int .i64 0, .int .i64 0, .bool false])) := ⟨0, 0, false, rfl, by omega, by omega, fun h => by cases h⟩
theorem NumOut.yes {s : ByteArray} (v t : Nat) (h1 : v ≤ 9999999999) (h2 : t ≤ 6) (h3 : 0 < s.size) : NumOut s (.returned (.tuple #[.int .i64 v, .int .i64 t, .bool true])) := ⟨v, t, true, rfl, h1, h2, fun _ => h3⟩
set_option maxRecDepth 100000 in
set_option maxHeartbeats 4000000 in
theorem rNumber_safe (s : ByteArray) (w : World) (hl : s.size ≤ 8192) : Calls Try.prog 69 #[.string s] w fun e w' => NumOut s e ∧ w = w' := by
  by_cases h0 : s.size = 0
  · go_enter Try.func69, Try.ntmps69
    go_wp2_with (first | (go_at_call 88; refine (rmax_v 5 2147483647 _ (by decide)).mono ?_; rintro e w' ⟨rfl, rfl⟩))
    go_loop [8, 9] (fun x i => x = .int .i64 0 ∧ i = .int .i64 0) (fun _ i => 0)
    case atStart => exact ⟨rfl, rfl⟩
    case round =>
      obtain ⟨rfl, rfl⟩ := hrel
      go_wp2
      go_ret3
      exact ⟨NumOut.no s, rfl⟩
  obtain ⟨m, hml, q0⟩ : ∃ m : Nat, m < s.size ∧ (s.size : Int) - 1 = (m : Int) := ⟨s.size - 1, by omega, by omega⟩
  have hs0 : 0 < s.size := by omega
  obtain ⟨u, hu⟩ : ∃ u : Bool, (((s[m]'hml).toNat : Int) == 117) = u := ⟨_, rfl⟩
  obtain ⟨z, hz⟩ : ∃ z : Bool, (((s[0]'hs0).toNat : Int) == 48) = z := ⟨_, rfl⟩
  clear h0
  cases u
  case' false =>
    go_enter Try.func69, Try.ntmps69
    go_wp2_with (first | (go_at_call 88; refine (rmax_v 5 2147483647 _ (by decide)).mono ?_; rintro e w' ⟨rfl, rfl⟩))
    go_loop [8, 9] (fun x i => ∃ k y : Nat, k ≤ s.size ∧ (k = 0 ∨ s.size ≤ 10) ∧ y < 10 ^ k ∧ x = .int .i64 y ∧ i = .int .i64 k) (fun _ i => s.size - (intOf i).toNat)
    case atStart => exact ⟨0, 0, by omega, .inl rfl, by decide, rfl, rfl⟩
    case round =>
      obtain ⟨k, y, hk, hk2, hy, rfl, rfl⟩ := hrel
      by_cases hlt : k < s.size
      · have hks : k < s.size := by omega
        have hlt' : (k : Int) < (s.size : Int) := by omega
        by_cases hten : s.size ≤ 10
        · have hp := pow_ten (k := k) (by omega)
          have hy2 : y < 1000000000 := by omega
          have HY := Lib.hid hy
          clear hy hp
          by_cases hdg : isDigitF (s[k]'hks) = true
          · obtain ⟨b1, b2⟩ := dig_bounds hdg
            rcases (show s.size ≤ 1 ∨ 1 < s.size by omega) with h1 | h1
            · go_wp2_with (first | (go_at_call 51; refine (rdigit_any _ _).mono ?_; rintro e w' ⟨rfl, rfl⟩))
              exact ⟨⟨k + 1, 10 * y + ((s[k]'hks).toNat - 48), by omega, .inr hten, by have := HY.out; rw [Nat.pow_succ]; omega, by congr 1; omega, by go_num⟩, by simp [intOf]; omega⟩
            · cases z
              · go_wp2_with (first | (go_at_call 51; refine (rdigit_any _ _).mono ?_; rintro e w' ⟨rfl, rfl⟩))
                exact ⟨⟨k + 1, 10 * y + ((s[k]'hks).toNat - 48), by omega, .inr hten, by have := HY.out; rw [Nat.pow_succ]; omega, by congr 1; omega, by go_num⟩, by simp [intOf]; omega⟩
              · go_wp2_with (first | (go_at_call 51; refine (rdigit_any _ _).mono ?_; rintro e w' ⟨rfl, rfl⟩))
                go_ret3
                exact ⟨NumOut.no s, rfl⟩
          · have hdg' : isDigitF (s[k]'hks) = false := by simpa using hdg
            go_wp2_with (first | (go_at_call 51; refine (rdigit_any _ _).mono ?_; rintro e w' ⟨rfl, rfl⟩))
            go_ret3
            exact ⟨NumOut.no s, rfl⟩
        · have hten' : 10 < s.size := by omega
          obtain ⟨dg, hdg⟩ : ∃ dg, isDigitF (s[k]'hks) = dg := ⟨_, rfl⟩
          clear hten hy hk2
          cases dg
          all_goals
            go_wp2_with (first | (go_at_call 51; refine (rdigit_any _ _).mono ?_; rintro e w' ⟨rfl, rfl⟩))
            go_ret3
            exact ⟨NumOut.no s, rfl⟩
      · obtain rfl : k = s.size := by omega
        have hy3 : y ≤ 9999999999 := by
          rcases hk2 with h | h
          · rw [h] at hy; simp at hy; omega
          · have := Nat.pow_le_pow_right (n := 10) (by omega) h; omega
        clear hy
        clear hk2
        have z1 : ((s.size : Int) == 0) = false := by rw [beq_eq_false_iff_ne]; omega
        go_wp2
        all_goals
          go_ret3
          first | exact ⟨NumOut.no s, rfl⟩ | exact ⟨NumOut.yes y _ hy3 (by omega) hs0, rfl⟩ | exact ⟨NumOut.yes y 5 hy3 (by omega) hs0, rfl⟩ | exact ⟨NumOut.yes y 6 hy3 (by omega) hs0, rfl⟩
  case' true =>
    have M1 : Hid True := Lib.hid trivial
    go_enter Try.func69, Try.ntmps69
    go_wp2_with (first | (go_at_call 88; clear M1; refine (rmax_v 5 2147483647 _ (by decide)).mono ?_; rintro e w' ⟨rfl, rfl⟩) | (go_at_call 88; refine (rmax_v 6 4294967295 _ (by decide)).mono ?_; rintro e w' ⟨rfl, rfl⟩))
    go_loop [8, 9] (fun x i => ∃ k y : Nat, k ≤ m ∧ (k = 0 ∨ m ≤ 10) ∧ y < 10 ^ k ∧ x = .int .i64 y ∧ i = .int .i64 k) (fun _ i => m - (intOf i).toNat)
    case atStart => exact ⟨0, 0, by omega, .inl rfl, by decide, rfl, rfl⟩
    case round =>
      obtain ⟨k, y, hk, hk2, hy, rfl, rfl⟩ := hrel
      by_cases hlt : k < m
      · have hks : k < s.size := by omega
        have hlt' : (k : Int) < (m : Int) := by omega
        by_cases hten : m ≤ 10
        · have hp := pow_ten (k := k) (by omega)
          have hy2 : y < 1000000000 := by omega
          have HY := Lib.hid hy
          clear hy hp
          by_cases hdg : isDigitF (s[k]'hks) = true
          · obtain ⟨b1, b2⟩ := dig_bounds hdg
            rcases (show m ≤ 1 ∨ 1 < m by omega) with h1 | h1
            · go_wp2_with (first | (go_at_call 51; refine (rdigit_any _ _).mono ?_; rintro e w' ⟨rfl, rfl⟩))
              exact ⟨⟨k + 1, 10 * y + ((s[k]'hks).toNat - 48), by omega, .inr hten, by have := HY.out; rw [Nat.pow_succ]; omega, by congr 1; omega, by go_num⟩, by simp [intOf]; omega⟩
            · cases z
              · go_wp2_with (first | (go_at_call 51; refine (rdigit_any _ _).mono ?_; rintro e w' ⟨rfl, rfl⟩))
                exact ⟨⟨k + 1, 10 * y + ((s[k]'hks).toNat - 48), by omega, .inr hten, by have := HY.out; rw [Nat.pow_succ]; omega, by congr 1; omega, by go_num⟩, by simp [intOf]; omega⟩
              · go_wp2_with (first | (go_at_call 51; refine (rdigit_any _ _).mono ?_; rintro e w' ⟨rfl, rfl⟩))
                go_ret3
                exact ⟨NumOut.no s, rfl⟩
          · have hdg' : isDigitF (s[k]'hks) = false := by simpa using hdg
            go_wp2_with (first | (go_at_call 51; refine (rdigit_any _ _).mono ?_; rintro e w' ⟨rfl, rfl⟩))
            go_ret3
            exact ⟨NumOut.no s, rfl⟩
        · have hten' : 10 < m := by omega
          obtain ⟨dg, hdg⟩ : ∃ dg, isDigitF (s[k]'hks) = dg := ⟨_, rfl⟩
          clear hten hy hk2
          cases dg
          all_goals
            go_wp2_with (first | (go_at_call 51; refine (rdigit_any _ _).mono ?_; rintro e w' ⟨rfl, rfl⟩))
            go_ret3
            exact ⟨NumOut.no s, rfl⟩
      · obtain rfl : k = m := by omega
        have hy3 : y ≤ 9999999999 := by
          rcases hk2 with h | h
          · rw [h] at hy; simp at hy; omega
          · have := Nat.pow_le_pow_right (n := 10) (by omega) h; omega
        clear hy
        clear hk2
        have z1 : ((s.size : Int) == 0) = false := by rw [beq_eq_false_iff_ne]; omega
        go_wp2
        all_goals
          go_ret3
          first | exact ⟨NumOut.no s, rfl⟩ | exact ⟨NumOut.yes y _ hy3 (by omega) hs0, rfl⟩ | exact ⟨NumOut.yes y 5 hy3 (by omega) hs0, rfl⟩ | exact ⟨NumOut.yes y 6 hy3 (by omega) hs0, rfl⟩
/-- What number tells of any text: where one ends, if there is no error. -/
def NumAt (s : ByteArray) (i : Nat) (e : Ending) : Prop := ∃ k c : Nat, e = .returned (.tuple #[.int .i64 k, .int .i64 c]) ∧ k ≤ s.size ∧ i ≤ k ∧ c ≤ 10 ∧ (c = 0 → i < k)
theorem num_bad {s : ByteArray} {i k c : Nat} {x y : Int} (h1 : k ≤ s.size) (h2 : i ≤ k) (h3 : 0 < c) (h4 : c ≤ 10) (h : x = k ∧ y = c) : NumAt s i (.returned (.tuple #[.int .i64 x, .int .i64 y])) := by
  obtain ⟨rfl, rfl⟩ := h
  exact ⟨k, c, rfl, h1, h2, h4, fun h => by omega⟩
theorem num_good {s : ByteArray} {i k : Nat} {x : Int} (h1 : k ≤ s.size) (h2 : i < k) (h : x = k) : NumAt s i (.returned (.tuple #[.int .i64 x, .int .i64 0])) := by
  subst h
  exact ⟨k, 0, rfl, h1, by omega, by omega, fun _ => h2⟩
set_option maxRecDepth 100000 in
set_option maxHeartbeats 4000000 in
theorem rnumber_safe (s : ByteArray) (i : Nat) (w : World) (hl : s.size ≤ 8192) (hi : i < s.size) (hd : isDigitF (s[i]'hi) = true) : Calls Try.prog 53 #[.string s, .int .i64 i] w fun e w' => NumAt s i e ∧ w = w' := by
  have HN := Lib.hid (fun (n : Nat) (w : World) => rNumber_safe (s.extract i (i + n)) w (by rw [ByteArray.size_extract]; omega))
  go_enter Try.func53, Try.ntmps53
  go_wp2
  go_loop [6] (fun x => ∃ j : Nat, i + j ≤ s.size ∧ x = .int .i64 ((i : Int) + (j : Int))) (fun x => s.size - (intOf x).toNat)
  case atStart => exact ⟨0, by omega, by simp⟩
  case round =>
    obtain ⟨j, hj, rfl⟩ := hrel
    have fin : 0 < j ∨ j = 0 := by omega
    have hq : ((i : Int) + (j : Int) - (i : Int)) = (j : Int) := by omega
    by_cases hb : i + j < s.size
    · by_cases hdg : isDigitF (s[i + j]'hb) = true
      · go_wp2_with (first | (go_at_call 51; refine (rdigit_any _ _).mono ?_; rintro e w' ⟨rfl, rfl⟩))
        exact ⟨⟨j + 1, by omega, by congr 1 <;> omega⟩, by simp [intOf]; omega⟩
      · have hdg' : isDigitF (s[i + j]'hb) = false := by simpa using hdg
        have hj0 : 0 < j := by
          rcases fin with h | h
          · exact h
          · subst h; exact absurd hd hdg
        clear hdg fin
        obtain ⟨z, hz⟩ : ∃ z : Bool, (((s[i]'hi).toNat : Int) == 48) = z := ⟨_, rfl⟩
        by_cases hqq : (((s[i + j]'hb).toNat : Int) == 117) = true
        · have M2 : Hid True := Lib.hid trivial
          clear M2
          by_cases hK : i + j + 1 < s.size
          · obtain ⟨c1, hc1⟩ : ∃ b : Bool, isLetterF (s[i + j + 1]'hK) = b := ⟨_, rfl⟩
            obtain ⟨c2, hc2⟩ : ∃ b : Bool, isDigitF (s[i + j + 1]'hK) = b := ⟨_, rfl⟩
            obtain ⟨c3, hc3⟩ : ∃ b : Bool, (((s[i + j + 1]'hK).toNat : Int) == 95) = b := ⟨_, rfl⟩
            rcases (show c1 = true ∨ (c1 = false ∧ c2 = true) ∨ (c1 = false ∧ c2 = false) by cases c1 <;> cases c2 <;> simp) with rfl | ⟨rfl, rfl⟩ | ⟨rfl, rfl⟩
            case' inr.inr => cases c3
            all_goals
              have HN1 := Lib.hid (HN.out (j + 1))
              clear HN
              rcases (show (j ≤ 1 ∨ (1 < j ∧ j ≤ 10 ∧ z = false)) ∨ (1 < j ∧ j ≤ 10 ∧ z = true) ∨ 10 < j by cases z <;> simp <;> omega) with (h1 | ⟨h1, h2, rfl⟩) | ⟨h1, h2, rfl⟩ | h1
              all_goals
                go_wp2_with (first | (go_at_call 51; refine (rdigit_any _ _).mono ?_; rintro e w' ⟨rfl, rfl⟩) | (go_at_call 50; refine (rletter_any _ _).mono ?_; rintro e w' ⟨rfl, rfl⟩) | (go_at_call 69; refine (HN1.out _).mono ?_; rintro e w' ⟨⟨v, t, b, rfl, hv, ht, hb0⟩, rfl⟩; cases b))
                all_goals go_ret2
                all_goals
                  first | exact ⟨num_bad (k := i + j + 1) (c := 3) (by omega) (by omega) (by omega) (by omega) ⟨by omega, rfl⟩, rfl⟩ | exact ⟨num_bad (k := i + j + 1) (c := 4) (by omega) (by omega) (by omega) (by omega) ⟨by omega, rfl⟩, rfl⟩ | exact ⟨num_bad (k := i + j) (c := 3) (by omega) (by omega) (by omega) (by omega) ⟨by omega, rfl⟩, rfl⟩ | exact ⟨num_bad (k := i + j) (c := 4) (by omega) (by omega) (by omega) (by omega) ⟨by omega, rfl⟩, rfl⟩ | exact ⟨num_good (k := i + j) (by omega) (by omega) (by omega), rfl⟩ | exact ⟨num_good (k := i + j + 1) (by omega) (by omega) (by omega), rfl⟩
          · have hK' : s.size ≤ i + j + 1 := by omega
            have HN1 := Lib.hid (HN.out (j + 1))
            clear HN
            rcases (show (j ≤ 1 ∨ (1 < j ∧ j ≤ 10 ∧ z = false)) ∨ (1 < j ∧ j ≤ 10 ∧ z = true) ∨ 10 < j by cases z <;> simp <;> omega) with (h1 | ⟨h1, h2, rfl⟩) | ⟨h1, h2, rfl⟩ | h1
            all_goals
              go_wp2_with (first | (go_at_call 51; refine (rdigit_any _ _).mono ?_; rintro e w' ⟨rfl, rfl⟩) | (go_at_call 50; refine (rletter_any _ _).mono ?_; rintro e w' ⟨rfl, rfl⟩) | (go_at_call 69; refine (HN1.out _).mono ?_; rintro e w' ⟨⟨v, t, b, rfl, hv, ht, hb0⟩, rfl⟩; cases b))
              all_goals go_ret2
              all_goals
                first | exact ⟨num_bad (k := i + j + 1) (c := 3) (by omega) (by omega) (by omega) (by omega) ⟨by omega, rfl⟩, rfl⟩ | exact ⟨num_bad (k := i + j + 1) (c := 4) (by omega) (by omega) (by omega) (by omega) ⟨by omega, rfl⟩, rfl⟩ | exact ⟨num_bad (k := i + j) (c := 3) (by omega) (by omega) (by omega) (by omega) ⟨by omega, rfl⟩, rfl⟩ | exact ⟨num_bad (k := i + j) (c := 4) (by omega) (by omega) (by omega) (by omega) ⟨by omega, rfl⟩, rfl⟩ | exact ⟨num_good (k := i + j) (by omega) (by omega) (by omega), rfl⟩ | exact ⟨num_good (k := i + j + 1) (by omega) (by omega) (by omega), rfl⟩
        · have hqq' : (((s[i + j]'hb).toNat : Int) == 117) = false := by simpa using hqq
          clear hqq
          obtain ⟨c1, hc1⟩ : ∃ b : Bool, isLetterF (s[i + j]'hb) = b := ⟨_, rfl⟩
          obtain ⟨c3, hc3⟩ : ∃ b : Bool, (((s[i + j]'hb).toNat : Int) == 95) = b := ⟨_, rfl⟩
          cases c1 <;> cases c3
          all_goals
            have HN1 := Lib.hid (HN.out (j))
            clear HN
            rcases (show (j ≤ 1 ∨ (1 < j ∧ j ≤ 10 ∧ z = false)) ∨ (1 < j ∧ j ≤ 10 ∧ z = true) ∨ 10 < j by cases z <;> simp <;> omega) with (h1 | ⟨h1, h2, rfl⟩) | ⟨h1, h2, rfl⟩ | h1
            all_goals
              go_wp2_with (first | (go_at_call 51; refine (rdigit_any _ _).mono ?_; rintro e w' ⟨rfl, rfl⟩) | (go_at_call 50; refine (rletter_any _ _).mono ?_; rintro e w' ⟨rfl, rfl⟩) | (go_at_call 69; refine (HN1.out _).mono ?_; rintro e w' ⟨⟨v, t, b, rfl, hv, ht, hb0⟩, rfl⟩; cases b))
              all_goals go_ret2
              all_goals
                first | exact ⟨num_bad (k := i + j + 1) (c := 3) (by omega) (by omega) (by omega) (by omega) ⟨by omega, rfl⟩, rfl⟩ | exact ⟨num_bad (k := i + j + 1) (c := 4) (by omega) (by omega) (by omega) (by omega) ⟨by omega, rfl⟩, rfl⟩ | exact ⟨num_bad (k := i + j) (c := 3) (by omega) (by omega) (by omega) (by omega) ⟨by omega, rfl⟩, rfl⟩ | exact ⟨num_bad (k := i + j) (c := 4) (by omega) (by omega) (by omega) (by omega) ⟨by omega, rfl⟩, rfl⟩ | exact ⟨num_good (k := i + j) (by omega) (by omega) (by omega), rfl⟩ | exact ⟨num_good (k := i + j + 1) (by omega) (by omega) (by omega), rfl⟩
    · have hK' : s.size ≤ i + j := by omega
      have hK2 : i + j ≤ s.size := hj
      have hj0 : 0 < j := by omega
      obtain ⟨z, hz⟩ : ∃ z : Bool, (((s[i]'hi).toNat : Int) == 48) = z := ⟨_, rfl⟩
      have HN1 := Lib.hid (HN.out (j))
      clear HN
      rcases (show (j ≤ 1 ∨ (1 < j ∧ j ≤ 10 ∧ z = false)) ∨ (1 < j ∧ j ≤ 10 ∧ z = true) ∨ 10 < j by cases z <;> simp <;> omega) with (h1 | ⟨h1, h2, rfl⟩) | ⟨h1, h2, rfl⟩ | h1
      all_goals
        go_wp2_with (first | (go_at_call 51; refine (rdigit_any _ _).mono ?_; rintro e w' ⟨rfl, rfl⟩) | (go_at_call 50; refine (rletter_any _ _).mono ?_; rintro e w' ⟨rfl, rfl⟩) | (go_at_call 69; refine (HN1.out _).mono ?_; rintro e w' ⟨⟨v, t, b, rfl, hv, ht, hb0⟩, rfl⟩; cases b))
        all_goals go_ret2
        all_goals
          first | exact ⟨num_bad (k := i + j + 1) (c := 3) (by omega) (by omega) (by omega) (by omega) ⟨by omega, rfl⟩, rfl⟩ | exact ⟨num_bad (k := i + j + 1) (c := 4) (by omega) (by omega) (by omega) (by omega) ⟨by omega, rfl⟩, rfl⟩ | exact ⟨num_bad (k := i + j) (c := 3) (by omega) (by omega) (by omega) (by omega) ⟨by omega, rfl⟩, rfl⟩ | exact ⟨num_bad (k := i + j) (c := 4) (by omega) (by omega) (by omega) (by omega) ⟨by omega, rfl⟩, rfl⟩ | exact ⟨num_good (k := i + j) (by omega) (by omega) (by omega), rfl⟩ | exact ⟨num_good (k := i + j + 1) (by omega) (by omega) (by omega), rfl⟩
end Go.Proofs.Ytnlkcjbnmkpnhaa.Lex
namespace Go.Proofs.Ytnlkcjbnmkpnhaa.Lex
open Go.RowKit
set_option maxRecDepth 100000 in
set_option maxHeartbeats 4000000 in
theorem rsign_none (s : ByteArray) (i : Nat) (w : World) (hl : s.size ≤ 8192) (hi : i < s.size) (h : ¬ 0 < signF ((lst s).drop i)) : Calls Try.prog 54 #[.string s, .int .i64 i] w fun e w' => e = .returned (.string ⟨#[]⟩) ∧ w = w' := by
  have hlen : ((lst s).drop i).length = s.size - i := by rw [List.length_drop, lst_length]
  have e0 : ((lst s).drop i)[0]'(by omega) = s[i] := by rw [List.getElem_drop]; exact lst_get s i hi
  have h2 : ¬ (1 < ((lst s).drop i).length ∧ twoSigns.contains (((lst s).drop i).take 2) = true) := by
    intro h3
    apply h
    unfold signF
    rw [if_pos h3]; omega
  have hs : signF ((lst s).drop i) = if oneSigns.contains s[i] then 1 else 0 := by rw [sign_one h2 (by omega), e0]
  rw [hs] at h
  have hc : oneSigns.contains s[i] = false := by
    cases hc : oneSigns.contains s[i]
    · rfl
    · rw [hc] at h; simp at h
  have hcc : ∀ c ∈ oneSigns, ((s[i]'hi).toNat : Int) ≠ c.toNat := by
    intro c hcm he
    have : s[i]'hi = c := UInt8.toNat_inj.1 (by omega)
    rw [this] at hc
    rw [List.contains_iff_mem.2 hcm] at hc
    cases hc
  clear h hs e0 hc
  have f : ∀ n : Nat, (UInt8.ofNat n) ∈ oneSigns → n < 256 → (((s[i]'hi).toNat : Int) == (n : Int)) = false := by
    intro n hn h256
    rw [beq_eq_false_iff_ne]
    have := hcc _ hn
    simpa [Nat.mod_eq_of_lt h256] using this
  have c40 : (((s[i]'hi).toNat : Int) == 40) = false := f 40 (by decide) (by omega)
  have c41 : (((s[i]'hi).toNat : Int) == 41) = false := f 41 (by decide) (by omega)
  have c123 : (((s[i]'hi).toNat : Int) == 123) = false := f 123 (by decide) (by omega)
  have c125 : (((s[i]'hi).toNat : Int) == 125) = false := f 125 (by decide) (by omega)
  have c91 : (((s[i]'hi).toNat : Int) == 91) = false := f 91 (by decide) (by omega)
  have c93 : (((s[i]'hi).toNat : Int) == 93) = false := f 93 (by decide) (by omega)
  have c44 : (((s[i]'hi).toNat : Int) == 44) = false := f 44 (by decide) (by omega)
  have c59 : (((s[i]'hi).toNat : Int) == 59) = false := f 59 (by decide) (by omega)
  have c58 : (((s[i]'hi).toNat : Int) == 58) = false := f 58 (by decide) (by omega)
  have c61 : (((s[i]'hi).toNat : Int) == 61) = false := f 61 (by decide) (by omega)
  have c60 : (((s[i]'hi).toNat : Int) == 60) = false := f 60 (by decide) (by omega)
  have c62 : (((s[i]'hi).toNat : Int) == 62) = false := f 62 (by decide) (by omega)
  have c43 : (((s[i]'hi).toNat : Int) == 43) = false := f 43 (by decide) (by omega)
  have c45 : (((s[i]'hi).toNat : Int) == 45) = false := f 45 (by decide) (by omega)
  have c42 : (((s[i]'hi).toNat : Int) == 42) = false := f 42 (by decide) (by omega)
  have c47 : (((s[i]'hi).toNat : Int) == 47) = false := f 47 (by decide) (by omega)
  have c37 : (((s[i]'hi).toNat : Int) == 37) = false := f 37 (by decide) (by omega)
  have c38 : (((s[i]'hi).toNat : Int) == 38) = false := f 38 (by decide) (by omega)
  have c124 : (((s[i]'hi).toNat : Int) == 124) = false := f 124 (by decide) (by omega)
  have c94 : (((s[i]'hi).toNat : Int) == 94) = false := f 94 (by decide) (by omega)
  have c126 : (((s[i]'hi).toNat : Int) == 126) = false := f 126 (by decide) (by omega)
  clear f hcc
  by_cases h1 : i + 1 < s.size
  · have h3 : twoSigns.contains (((lst s).drop i).take 2) = false := by
      cases e : twoSigns.contains (((lst s).drop i).take 2)
      · rfl
      · exact absurd ⟨by omega, e⟩ h2
    have H := Lib.hid (fun k hk => contains_no (ks := twoSigns) (l := ((lst s).drop i).take 2) h3 k hk)
    clear h2 h3 hlen
    have k0 : ((s.extract i (i + 2)).toList == [61, 61]) = false := by rw [lst_toList, lst_cut]; exact H.out _ (by decide)
    have k1 : ((s.extract i (i + 2)).toList == [33, 61]) = false := by rw [lst_toList, lst_cut]; exact H.out _ (by decide)
    have k2 : ((s.extract i (i + 2)).toList == [60, 61]) = false := by rw [lst_toList, lst_cut]; exact H.out _ (by decide)
    have k3 : ((s.extract i (i + 2)).toList == [62, 61]) = false := by rw [lst_toList, lst_cut]; exact H.out _ (by decide)
    have k4 : ((s.extract i (i + 2)).toList == [60, 60]) = false := by rw [lst_toList, lst_cut]; exact H.out _ (by decide)
    have k5 : ((s.extract i (i + 2)).toList == [62, 62]) = false := by rw [lst_toList, lst_cut]; exact H.out _ (by decide)
    clear H
    go_enter Try.func54, Try.ntmps54
    go_wp2
    go_ret
    exact ⟨rfl, rfl⟩
  · clear h2 hlen
    go_enter Try.func54, Try.ntmps54
    go_wp2
    go_ret
    exact ⟨rfl, rfl⟩
/-- A token that may stand ahead of the end. -/
def Sane (t : Tok) : Prop := 1 ≤ t.kind ∧ t.kind ≤ 4 ∧ t.text.length ≤ 8192 ∧ t.place ≤ 8192
/-- Tokens, and their end. -/
def Ends (T : List Tok) : Prop := ∃ ts p, T = ts ++ [⟨0, [], p⟩] ∧ p ≤ 8192 ∧ ∀ t ∈ ts, Sane t
/-- What Lex tells of any text. -/
def LexOut (s : ByteArray) (w w' : World) (e : Ending) : Prop :=
  (∃ (v : Value) (c a : Nat), e = .returned (.tuple #[v, .int .i64 c, .int .i64 a]) ∧ 0 < c ∧ c ≤ 10 ∧ Kept w w') ∨
  ∃ v T, e = .returned (.tuple #[v, .int .i64 0, .int .i64 0]) ∧ Ends T ∧ T.length ≤ s.size + 1 ∧ Hid (Kept w w' ∧ w'.ownsRow w.heap.size 87 3 v T.length (cellsOf T))
theorem LexOut.bad {s : ByteArray} {w w' : World} {v : Value} {c a : Nat} {x y : Int} (hk : Kept w w') (h1 : 0 < c) (h2 : c ≤ 10) (h : x = c ∧ y = a) : LexOut s w w' (.returned (.tuple #[v, .int .i64 x, .int .i64 y])) := by
  obtain ⟨rfl, rfl⟩ := h
  exact .inl ⟨v, c, a, rfl, h1, h2, hk⟩
theorem sane_cut {s : ByteArray} {q k n : Nat} (hs : s.size ≤ 8192) (hq : 1 ≤ q ∧ q ≤ 4) (hk : k ≤ 8192) : Sane ⟨q, ((lst s).drop k).take n, k⟩ :=
  ⟨hq.1, hq.2, by rw [List.length_take, List.length_drop, lst_length]; omega, hk⟩
theorem sane_snoc {ts : List Tok} {t : Tok} (h : ∀ t ∈ ts, Sane t) (ht : Sane t) : ∀ u ∈ ts ++ [t], Sane u := by
  intro u hu
  rcases List.mem_append.1 hu with hu | hu
  · exact h u hu
  · obtain rfl : u = t := by simpa using hu
    exact ht

set_option maxRecDepth 100000 in
set_option maxHeartbeats 4000000 in
theorem rLex_safe (s : ByteArray) (w : World) (hs : s.size ≤ 8192) : Calls Try.prog 29 #[.string s] w fun e w' => LexOut s w w' e := by
  obtain ⟨i0, hi0, hz0, hz1, hz2⟩ := info_parts tok_info
  have Hi := Lib.hid (And.intro hi0 (And.intro hz0 (And.intro hz1 hz2)))
  clear hi0 hz0 hz1 hz2
  go_enter Try.func29, Try.ntmps29
  go_wp2
  go_loopw [5, 6] (fun v i wz => ∃ (k : Nat) (ts : List Tok) (wx : World), i = .int .i64 k ∧ wx = wz ∧ k ≤ s.size ∧ ts.length ≤ k ∧ Hid (∀ t ∈ ts, Sane t) ∧ Hid (Kept w wx ∧ wx.ownsRow w.heap.size 87 3 v ts.length (cellsOf ts))) (fun _ i _ => s.size - (intOf i).toNat)
  case atStart => exact ⟨0, [], _, rfl, rfl, by omega, by simp, Lib.hid (fun t h => by cases h), Lib.hid ⟨Kept.refl _, rfl, .inl ⟨rfl, rfl⟩⟩⟩
  case round =>
    obtain ⟨k, ts, wx, rfl, rfl, hk, hlen, HT, HW⟩ := hrel
    have hbw := HW.out.1.size
    by_cases hlt : k < s.size
    case neg =>
      obtain rfl : k = s.size := by omega
      go_wp2_with (at_builtin; refine wpList_append_lies _ rfl (.tmp 143) (.tmp 147) 79 rfl w.heap.size 87 i0 _ 3 32 Try.underlying79 Hi.out.1 Hi.out.2.1 Hi.out.2.2.1 Hi.out.2.2.2 rfl (by omega) u5 ts.length (cellsOf ts) rfl ((HW.out.2).alloc _) ⟨wx.heap.size, 0, none⟩ 1 1 [.int .i64 0, .string ⟨#[]⟩, .int .i64 s.size] rfl rfl (World.news_of_block (cs := #[.int .i64 0, .string ⟨#[]⟩, .int .i64 s.size]) (heap_alloc_new wx _)) (by simp [Value.oneCell']) (by omega) (by simp only [maxLen]; omega) (by omega) (by simp; omega) (wx.heap.size + 1) (by simp) ?_; intro ga cap w7 hown hgrow hat hlt7; have Hown7 := Lib.hid hown; have Hgrow := Lib.hid hgrow; have Hat := Lib.hid hat; clear hown hgrow hat)
      go_ret3
      have hn := row_next (t := ⟨0, [], s.size⟩) HW.out.1 HW.out.2 Hgrow.out Hown7.out
      exact .inr ⟨_, _, rfl, ⟨ts, s.size, rfl, hs, HT.out⟩, by simp; omega, Lib.hid hn⟩
    rcases gap_step' s k hlt with ⟨hb, hg⟩ | ⟨hb, h35, hg, h1⟩ | ⟨hb, h35, hg⟩
    · clear hg
      have hbl := blank_yes hb
      go_wp2_with fail
      all_goals
        exact ⟨⟨k + 1, ts, _, by simp, rfl, by omega, by omega, HT, HW⟩, by simp [intOf]; omega⟩
    · clear hg
      obtain ⟨n1, n2, n3, n4⟩ := blank_no hb
      have q1 : ¬ ((s[k].toNat : Int) = 32) := by omega
      have q2 : ¬ ((s[k].toNat : Int) = 9) := by omega
      have q3 : ¬ ((s[k].toNat : Int) = 10) := by omega
      have q4 : ¬ ((s[k].toNat : Int) = 13) := by omega
      have q5 : (s[k].toNat : Int) = 35 := by omega
      have hsl : k + spanF inLineF ((lst s).drop k) ≤ s.size := by have := span_le inLineF ((lst s).drop k); rw [List.length_drop, lst_length] at this; omega
      clear h35 n1 n2 n3 n4 hb
      generalize hD : spanF inLineF ((lst s).drop k) = D at *
      go_wp2_with fail
      go_loop [6] (fun x => ∃ j : Nat, j ≤ D ∧ x = .int .i64 ((k : Int) + (j : Int))) (fun x => s.size - (intOf x).toNat)
      case atStart => exact ⟨0, by omega, by simp⟩
      case round =>
        obtain ⟨j, hj, rfl⟩ := hrel
        by_cases hb : k + j < s.size
        · have hh := span_here inLineF s k j (by rw [hD]; exact hj) hb
          rw [hD] at hh
          rcases hh with ⟨h2, h3⟩ | ⟨h2, h3⟩
          · have hne : (((s[k + j]'hb).toNat : Int) != 10) = true := by rw [line_iff]; exact h2
            clear h2
            go_wp2_with fail
            exact ⟨⟨j + 1, h3, by congr 1 <;> omega⟩, by simp [intOf]; omega⟩
          · have hne : (((s[k + j]'hb).toNat : Int) != 10) = false := by rw [line_iff]; exact h2
            subst h3
            clear h2 hD
            go_wp2_with fail
            exact ⟨⟨k + D, ts, _, by congr 1 <;> omega, rfl, by omega, by omega, HT, HW⟩, by simp [intOf]; omega⟩
        · obtain rfl : j = D := by omega
          clear hD
          go_wp2_with fail
          exact ⟨⟨k + j, ts, _, by congr 1 <;> omega, rfl, by omega, by omega, HT, HW⟩, by simp [intOf]; omega⟩
    · clear hg
      obtain ⟨n1, n2, n3, n4⟩ := blank_no hb
      have q1 : ¬ ((s[k].toNat : Int) = 32) := by omega
      have q2 : ¬ ((s[k].toNat : Int) = 9) := by omega
      have q3 : ¬ ((s[k].toNat : Int) = 10) := by omega
      have q4 : ¬ ((s[k].toNat : Int) = 13) := by omega
      have q5 : ¬ ((s[k].toNat : Int) = 35) := by omega
      have r1 : ((s[k].toNat : Int) == 32) = false := by rw [beq_eq_false_iff_ne]; omega
      have r2 : ((s[k].toNat : Int) == 9) = false := by rw [beq_eq_false_iff_ne]; omega
      have r3 : ((s[k].toNat : Int) == 10) = false := by rw [beq_eq_false_iff_ne]; omega
      have r4 : ((s[k].toNat : Int) == 13) = false := by rw [beq_eq_false_iff_ne]; omega
      have r5 : ((s[k].toNat : Int) == 35) = false := by rw [beq_eq_false_iff_ne]; omega
      clear h35 n1 n2 n3 n4 hb
      by_cases hL : isLetterF s[k] = true
      · go_wp2_with (first | (go_at_call 51; refine (rdigit_any _ _).mono ?_; rintro e w' ⟨rfl, rfl⟩) | (go_at_call 50; refine (rletter_any _ _).mono ?_; rintro e w' ⟨rfl, rfl⟩))
        go_loop [8] (fun x => ∃ j : Nat, k + j ≤ s.size ∧ x = .int .i64 ((k : Int) + (j : Int))) (fun x => s.size - (intOf x).toNat)
        case atStart => exact ⟨0, by omega, by simp⟩
        case round =>
          obtain ⟨n, hj, rfl⟩ := hrel
          have hq : ((k : Int) + (n : Int) - (k : Int)) = (n : Int) := by omega
          have fin : Hid (∀ (b : Bool), Hid (n = 0 → False) → True) := Lib.hid (fun _ _ => trivial)
          clear fin
          by_cases hb : k + n < s.size
          · by_cases h2 : inWordF (s[k + n]'hb) = true
            · rcases inWord_yes h2 with f1 | ⟨f1, f2⟩ | ⟨f1, f2, f3⟩
              all_goals
                clear h2
                go_wp2_with (first | (go_at_call 51; refine (rdigit_any _ _).mono ?_; rintro e w' ⟨rfl, rfl⟩) | (go_at_call 50; refine (rletter_any _ _).mono ?_; rintro e w' ⟨rfl, rfl⟩))
                exact ⟨⟨n + 1, by omega, by congr 1 <;> omega⟩, by simp [intOf]; omega⟩
            · obtain ⟨f1, f2, f3⟩ := inWord_no (show inWordF (s[k + n]'hb) = false by simpa using h2)
              have hn0 : 0 < n := by
                rcases (show n = 0 ∨ 0 < n by omega) with h | h
                · subst h; rw [show isLetterF (s[k + 0]'hb) = true from hL] at f1; cases f1
                · exact h
              clear h2
              rcases (show isKeyF (((lst s).drop k).take n) = true ∨ isKeyF (((lst s).drop k).take n) = false by cases isKeyF (((lst s).drop k).take n) <;> simp) with hkey | hkey
              · have HK : Hid (∀ w2 : World, Calls Try.prog 52 #[.string (s.extract k (k + n))] w2 fun e w' => e = .returned (.bool true) ∧ Kept w2 w') := Lib.hid fun w2 => by have := rkey_any (s.extract k (k + n)) w2; rw [lst_cut, hkey] at this; exact this
                clear hkey
                rcases (show n ≤ 20 ∨ 20 < n by omega) with h20 | h20
                · go_wp2_with (first | (go_at_call 51; refine (rdigit_any _ _).mono ?_; rintro e w' ⟨rfl, rfl⟩) | (go_at_call 50; refine (rletter_any _ _).mono ?_; rintro e w' ⟨rfl, rfl⟩) | (go_at_call 52; refine (HK.out _).mono ?_; rintro e w2 ⟨rfl, hk2⟩; have HW2 := Lib.hid (And.intro (HW.out.1.trans hk2) (own_kept3 HW.out.2 hk2)); have hb2 := HW2.out.1.size; clear hk2) | (at_builtin; refine wpList_append_lies _ rfl (.tmp 109) (.tmp 117) 79 rfl w.heap.size 87 i0 _ 3 32 Try.underlying79 Hi.out.1 Hi.out.2.1 Hi.out.2.2.1 Hi.out.2.2.2 rfl (by omega) u5 ts.length (cellsOf ts) rfl ((HW2.out.2).alloc _) ⟨w2.heap.size, 0, none⟩ 1 1 [.int .i64 3, .string (s.extract k (k + n)), .int .i64 k] rfl rfl (World.news_of_block (cs := #[.int .i64 3, .string (s.extract k (k + n)), .int .i64 k]) (heap_alloc_new w2 _)) (by simp [Value.oneCell']) (by omega) (by simp only [maxLen]; omega) (by omega) (by simp; omega) (w2.heap.size + 1) (by simp) ?_; intro ga cap w7 hown hgrow hat hlt7; have Hown7 := Lib.hid hown; have Hgrow := Lib.hid hgrow; have Hat := Lib.hid hat; clear hown hgrow hat))
                  have hn := row_next (t := ⟨3, ((lst s).drop k).take n, k⟩) HW2.out.1 HW2.out.2 Hgrow.out (by rw [← tok_cells]; exact Hown7.out)
                  exact ⟨⟨k + n, ts ++ [⟨3, ((lst s).drop k).take n, k⟩], _, by simp, rfl, by omega, by simp; omega, Lib.hid (sane_snoc HT.out (sane_cut hs (by omega) (by omega))), Lib.hid hn⟩, by simp [intOf]; omega⟩
                · go_wp2_with (first | (go_at_call 51; refine (rdigit_any _ _).mono ?_; rintro e w' ⟨rfl, rfl⟩) | (go_at_call 50; refine (rletter_any _ _).mono ?_; rintro e w' ⟨rfl, rfl⟩) | (go_at_call 52; refine (HK.out _).mono ?_; rintro e w2 ⟨rfl, hk2⟩; have HW2 := Lib.hid (And.intro (HW.out.1.trans hk2) (own_kept3 HW.out.2 hk2)); have hb2 := HW2.out.1.size; clear hk2))
                  go_ret3
                  exact LexOut.bad (c := 3) (a := k) HW2.out.1 (by omega) (by omega) ⟨rfl, rfl⟩
              · have HK : Hid (∀ w2 : World, Calls Try.prog 52 #[.string (s.extract k (k + n))] w2 fun e w' => e = .returned (.bool false) ∧ Kept w2 w') := Lib.hid fun w2 => by have := rkey_any (s.extract k (k + n)) w2; rw [lst_cut, hkey] at this; exact this
                clear hkey
                rcases (show n ≤ 20 ∨ 20 < n by omega) with h20 | h20
                · go_wp2_with (first | (go_at_call 51; refine (rdigit_any _ _).mono ?_; rintro e w' ⟨rfl, rfl⟩) | (go_at_call 50; refine (rletter_any _ _).mono ?_; rintro e w' ⟨rfl, rfl⟩) | (go_at_call 52; refine (HK.out _).mono ?_; rintro e w2 ⟨rfl, hk2⟩; have HW2 := Lib.hid (And.intro (HW.out.1.trans hk2) (own_kept3 HW.out.2 hk2)); have hb2 := HW2.out.1.size; clear hk2) | (at_builtin; refine wpList_append_lies _ rfl (.tmp 109) (.tmp 117) 79 rfl w.heap.size 87 i0 _ 3 32 Try.underlying79 Hi.out.1 Hi.out.2.1 Hi.out.2.2.1 Hi.out.2.2.2 rfl (by omega) u5 ts.length (cellsOf ts) rfl ((HW2.out.2).alloc _) ⟨w2.heap.size, 0, none⟩ 1 1 [.int .i64 1, .string (s.extract k (k + n)), .int .i64 k] rfl rfl (World.news_of_block (cs := #[.int .i64 1, .string (s.extract k (k + n)), .int .i64 k]) (heap_alloc_new w2 _)) (by simp [Value.oneCell']) (by omega) (by simp only [maxLen]; omega) (by omega) (by simp; omega) (w2.heap.size + 1) (by simp) ?_; intro ga cap w7 hown hgrow hat hlt7; have Hown7 := Lib.hid hown; have Hgrow := Lib.hid hgrow; have Hat := Lib.hid hat; clear hown hgrow hat))
                  have hn := row_next (t := ⟨1, ((lst s).drop k).take n, k⟩) HW2.out.1 HW2.out.2 Hgrow.out (by rw [← tok_cells]; exact Hown7.out)
                  exact ⟨⟨k + n, ts ++ [⟨1, ((lst s).drop k).take n, k⟩], _, by simp, rfl, by omega, by simp; omega, Lib.hid (sane_snoc HT.out (sane_cut hs (by omega) (by omega))), Lib.hid hn⟩, by simp [intOf]; omega⟩
                · go_wp2_with (first | (go_at_call 51; refine (rdigit_any _ _).mono ?_; rintro e w' ⟨rfl, rfl⟩) | (go_at_call 50; refine (rletter_any _ _).mono ?_; rintro e w' ⟨rfl, rfl⟩) | (go_at_call 52; refine (HK.out _).mono ?_; rintro e w2 ⟨rfl, hk2⟩; have HW2 := Lib.hid (And.intro (HW.out.1.trans hk2) (own_kept3 HW.out.2 hk2)); have hb2 := HW2.out.1.size; clear hk2))
                  go_ret3
                  exact LexOut.bad (c := 3) (a := k) HW2.out.1 (by omega) (by omega) ⟨rfl, rfl⟩
          · have hn0 : 0 < n := by omega
            have hbe : s.size ≤ k + n := by omega
            rcases (show isKeyF (((lst s).drop k).take n) = true ∨ isKeyF (((lst s).drop k).take n) = false by cases isKeyF (((lst s).drop k).take n) <;> simp) with hkey | hkey
            · have HK : Hid (∀ w2 : World, Calls Try.prog 52 #[.string (s.extract k (k + n))] w2 fun e w' => e = .returned (.bool true) ∧ Kept w2 w') := Lib.hid fun w2 => by have := rkey_any (s.extract k (k + n)) w2; rw [lst_cut, hkey] at this; exact this
              clear hkey
              rcases (show n ≤ 20 ∨ 20 < n by omega) with h20 | h20
              · go_wp2_with (first | (go_at_call 51; refine (rdigit_any _ _).mono ?_; rintro e w' ⟨rfl, rfl⟩) | (go_at_call 50; refine (rletter_any _ _).mono ?_; rintro e w' ⟨rfl, rfl⟩) | (go_at_call 52; refine (HK.out _).mono ?_; rintro e w2 ⟨rfl, hk2⟩; have HW2 := Lib.hid (And.intro (HW.out.1.trans hk2) (own_kept3 HW.out.2 hk2)); have hb2 := HW2.out.1.size; clear hk2) | (at_builtin; refine wpList_append_lies _ rfl (.tmp 109) (.tmp 117) 79 rfl w.heap.size 87 i0 _ 3 32 Try.underlying79 Hi.out.1 Hi.out.2.1 Hi.out.2.2.1 Hi.out.2.2.2 rfl (by omega) u5 ts.length (cellsOf ts) rfl ((HW2.out.2).alloc _) ⟨w2.heap.size, 0, none⟩ 1 1 [.int .i64 3, .string (s.extract k (k + n)), .int .i64 k] rfl rfl (World.news_of_block (cs := #[.int .i64 3, .string (s.extract k (k + n)), .int .i64 k]) (heap_alloc_new w2 _)) (by simp [Value.oneCell']) (by omega) (by simp only [maxLen]; omega) (by omega) (by simp; omega) (w2.heap.size + 1) (by simp) ?_; intro ga cap w7 hown hgrow hat hlt7; have Hown7 := Lib.hid hown; have Hgrow := Lib.hid hgrow; have Hat := Lib.hid hat; clear hown hgrow hat))
                have hn := row_next (t := ⟨3, ((lst s).drop k).take n, k⟩) HW2.out.1 HW2.out.2 Hgrow.out (by rw [← tok_cells]; exact Hown7.out)
                exact ⟨⟨k + n, ts ++ [⟨3, ((lst s).drop k).take n, k⟩], _, by simp, rfl, by omega, by simp; omega, Lib.hid (sane_snoc HT.out (sane_cut hs (by omega) (by omega))), Lib.hid hn⟩, by simp [intOf]; omega⟩
              · go_wp2_with (first | (go_at_call 51; refine (rdigit_any _ _).mono ?_; rintro e w' ⟨rfl, rfl⟩) | (go_at_call 50; refine (rletter_any _ _).mono ?_; rintro e w' ⟨rfl, rfl⟩) | (go_at_call 52; refine (HK.out _).mono ?_; rintro e w2 ⟨rfl, hk2⟩; have HW2 := Lib.hid (And.intro (HW.out.1.trans hk2) (own_kept3 HW.out.2 hk2)); have hb2 := HW2.out.1.size; clear hk2))
                go_ret3
                exact LexOut.bad (c := 3) (a := k) HW2.out.1 (by omega) (by omega) ⟨rfl, rfl⟩
            · have HK : Hid (∀ w2 : World, Calls Try.prog 52 #[.string (s.extract k (k + n))] w2 fun e w' => e = .returned (.bool false) ∧ Kept w2 w') := Lib.hid fun w2 => by have := rkey_any (s.extract k (k + n)) w2; rw [lst_cut, hkey] at this; exact this
              clear hkey
              rcases (show n ≤ 20 ∨ 20 < n by omega) with h20 | h20
              · go_wp2_with (first | (go_at_call 51; refine (rdigit_any _ _).mono ?_; rintro e w' ⟨rfl, rfl⟩) | (go_at_call 50; refine (rletter_any _ _).mono ?_; rintro e w' ⟨rfl, rfl⟩) | (go_at_call 52; refine (HK.out _).mono ?_; rintro e w2 ⟨rfl, hk2⟩; have HW2 := Lib.hid (And.intro (HW.out.1.trans hk2) (own_kept3 HW.out.2 hk2)); have hb2 := HW2.out.1.size; clear hk2) | (at_builtin; refine wpList_append_lies _ rfl (.tmp 109) (.tmp 117) 79 rfl w.heap.size 87 i0 _ 3 32 Try.underlying79 Hi.out.1 Hi.out.2.1 Hi.out.2.2.1 Hi.out.2.2.2 rfl (by omega) u5 ts.length (cellsOf ts) rfl ((HW2.out.2).alloc _) ⟨w2.heap.size, 0, none⟩ 1 1 [.int .i64 1, .string (s.extract k (k + n)), .int .i64 k] rfl rfl (World.news_of_block (cs := #[.int .i64 1, .string (s.extract k (k + n)), .int .i64 k]) (heap_alloc_new w2 _)) (by simp [Value.oneCell']) (by omega) (by simp only [maxLen]; omega) (by omega) (by simp; omega) (w2.heap.size + 1) (by simp) ?_; intro ga cap w7 hown hgrow hat hlt7; have Hown7 := Lib.hid hown; have Hgrow := Lib.hid hgrow; have Hat := Lib.hid hat; clear hown hgrow hat))
                have hn := row_next (t := ⟨1, ((lst s).drop k).take n, k⟩) HW2.out.1 HW2.out.2 Hgrow.out (by rw [← tok_cells]; exact Hown7.out)
                exact ⟨⟨k + n, ts ++ [⟨1, ((lst s).drop k).take n, k⟩], _, by simp, rfl, by omega, by simp; omega, Lib.hid (sane_snoc HT.out (sane_cut hs (by omega) (by omega))), Lib.hid hn⟩, by simp [intOf]; omega⟩
              · go_wp2_with (first | (go_at_call 51; refine (rdigit_any _ _).mono ?_; rintro e w' ⟨rfl, rfl⟩) | (go_at_call 50; refine (rletter_any _ _).mono ?_; rintro e w' ⟨rfl, rfl⟩) | (go_at_call 52; refine (HK.out _).mono ?_; rintro e w2 ⟨rfl, hk2⟩; have HW2 := Lib.hid (And.intro (HW.out.1.trans hk2) (own_kept3 HW.out.2 hk2)); have hb2 := HW2.out.1.size; clear hk2))
                go_ret3
                exact LexOut.bad (c := 3) (a := k) HW2.out.1 (by omega) (by omega) ⟨rfl, rfl⟩
      have hL' : isLetterF s[k] = false := by simpa using hL
      clear hL
      by_cases hDg : isDigitF s[k] = true
      · have HN := Lib.hid (rnumber_safe s k wx hs hlt hDg)
        go_wp2_with (first | (go_at_call 51; refine (rdigit_any _ _).mono ?_; rintro e w' ⟨rfl, rfl⟩) | (go_at_call 50; refine (rletter_any _ _).mono ?_; rintro e w' ⟨rfl, rfl⟩) | (go_at_call 53; refine HN.out.mono ?_; rintro e w' ⟨⟨k2, c, rfl, g1, g2, g3, g4⟩, rfl⟩; clear HN; obtain ⟨n, rfl⟩ : ∃ n, k2 = k + n := ⟨k2 - k, by omega⟩; have hq2 : ((k : Int) + (n : Int) - (k : Int)) = (n : Int) := (by omega)) | (at_builtin; refine wpList_append_lies _ rfl (.tmp 133) (.tmp 140) 79 rfl w.heap.size 87 i0 _ 3 32 Try.underlying79 Hi.out.1 Hi.out.2.1 Hi.out.2.2.1 Hi.out.2.2.2 rfl (by omega) u5 ts.length (cellsOf ts) rfl ((HW.out.2).alloc _) ⟨wx.heap.size, 0, none⟩ 1 1 [.int .i64 2, .string (s.extract k (k + n)), .int .i64 k] rfl rfl (World.news_of_block (cs := #[.int .i64 2, .string (s.extract k (k + n)), .int .i64 k]) (heap_alloc_new wx _)) (by simp [Value.oneCell']) (by omega) (by simp only [maxLen]; omega) (by omega) (by simp; omega) (wx.heap.size + 1) (by simp) ?_; intro ga cap w7 hown hgrow hat hlt7; have Hown7 := Lib.hid hown; have Hgrow := Lib.hid hgrow; have Hat := Lib.hid hat; clear hown hgrow hat))
        · rename_i hc0
          go_ret3
          exact LexOut.bad (c := c) (a := k) HW.out.1 (by simp at hc0; omega) g3 ⟨rfl, rfl⟩
        · rename_i hc0
          have hn0 : k < k + n := g4 (by simp at hc0; omega)
          have hn := row_next (t := ⟨2, ((lst s).drop k).take n, k⟩) HW.out.1 HW.out.2 Hgrow.out (by rw [← tok_cells]; exact Hown7.out)
          exact ⟨⟨k + n, ts ++ [⟨2, ((lst s).drop k).take n, k⟩], _, by simp, rfl, by omega, by simp; omega, Lib.hid (sane_snoc HT.out (sane_cut hs (by omega) (by omega))), Lib.hid hn⟩, by simp [intOf]; omega⟩
      have hDg' : isDigitF s[k] = false := by simpa using hDg
      clear hDg
      by_cases hsg : 0 < signF ((lst s).drop k)
      · have HN := Lib.hid (rsign_any s k wx (by omega) hlt hsg)
        have hle := sign_le ((lst s).drop k)
        rw [List.length_drop, lst_length] at hle
        generalize signF ((lst s).drop k) = n at *
        have hsz : (s.extract k (k + n)).size = n := by rw [ByteArray.size_extract]; omega
        have hne : ((s.extract k (k + n)).toList == []) = false := by
          rw [lst_toList, beq_eq_false_iff_ne]
          intro e
          have := congrArg List.length e
          rw [lst_length, hsz] at this
          simp at this; omega
        go_wp2_with (first | (go_at_call 51; refine (rdigit_any _ _).mono ?_; rintro e w' ⟨rfl, rfl⟩) | (go_at_call 50; refine (rletter_any _ _).mono ?_; rintro e w' ⟨rfl, rfl⟩) | (go_at_call 54; refine HN.out.mono ?_; rintro e w' ⟨rfl, rfl⟩) | (at_builtin; refine wpList_append_lies _ rfl (.tmp 29) (.tmp 33) 79 rfl w.heap.size 87 i0 _ 3 32 Try.underlying79 Hi.out.1 Hi.out.2.1 Hi.out.2.2.1 Hi.out.2.2.2 rfl (by omega) u5 ts.length (cellsOf ts) rfl ((HW.out.2).alloc _) ⟨wx.heap.size, 0, none⟩ 1 1 [.int .i64 4, .string (s.extract k (k + n)), .int .i64 k] rfl rfl (World.news_of_block (cs := #[.int .i64 4, .string (s.extract k (k + n)), .int .i64 k]) (heap_alloc_new wx _)) (by simp [Value.oneCell']) (by omega) (by simp only [maxLen]; omega) (by omega) (by simp; omega) (wx.heap.size + 1) (by simp) ?_; intro ga cap w7 hown hgrow hat hlt7; have Hown7 := Lib.hid hown; have Hgrow := Lib.hid hgrow; have Hat := Lib.hid hat; clear hown hgrow hat))
        have hn := row_next (t := ⟨4, ((lst s).drop k).take n, k⟩) HW.out.1 HW.out.2 Hgrow.out (by rw [← tok_cells]; exact Hown7.out)
        exact ⟨⟨k + n, ts ++ [⟨4, ((lst s).drop k).take n, k⟩], _, by simp, rfl, by omega, by simp; omega, Lib.hid (sane_snoc HT.out (sane_cut hs (by omega) (by omega))), Lib.hid hn⟩, by simp [intOf]; omega⟩
      · have HN := Lib.hid (rsign_none s k wx hs hlt hsg)
        clear hsg
        go_wp2_with (first | (go_at_call 51; refine (rdigit_any _ _).mono ?_; rintro e w' ⟨rfl, rfl⟩) | (go_at_call 50; refine (rletter_any _ _).mono ?_; rintro e w' ⟨rfl, rfl⟩) | (go_at_call 54; refine HN.out.mono ?_; rintro e w' ⟨rfl, rfl⟩))
        go_ret3
        exact LexOut.bad (c := 4) (a := k) HW.out.1 (by omega) (by omega) ⟨rfl, rfl⟩
end Go.Proofs.Ytnlkcjbnmkpnhaa.Lex
namespace Go.Proofs.Ytnlkcjbnmkpnhaa.Srd
open Go.RowKit
open Lex (Tok Sane)
open Rpr (Chg box_cell box_froz ne_of_ty)

theorem ends_head {us : List Tok} (h : Lex.Ends us) : ∃ t us', us = t :: us' ∧ t.text.length ≤ 8192 ∧ t.place ≤ 8192 ∧ t.kind ≤ 4 ∧ (t.kind ≠ 0 → Lex.Ends us') := by
  obtain ⟨ts, p, rfl, hp, hs⟩ := h
  cases ts with
  | nil => exact ⟨_, [], rfl, by simp, hp, by simp, fun h => absurd rfl h⟩
  | cons t ts => exact ⟨t, ts ++ [⟨0, [], p⟩], rfl, (hs t (by simp)).2.2.1, (hs t (by simp)).2.2.2, (hs t (by simp)).2.1, fun _ => ⟨ts, p, rfl, hp, fun u hu => hs u (by simp [hu])⟩⟩
def srCells (G n cap p d e a : Nat) : Array Value := #[.slice (some ⟨G, 0, none⟩) n cap, .int .i64 p, .int .i64 d, .int .i64 e, .int .i64 a]
/-- The reader lies in block r, us is what is left of its tokens, d how deep it is, e its error. Nothing below B is its own. -/
structure SR (B G : Nat) (w : World) (r : Nat) (us : List Tok) (d e : Nat) : Prop where
  lie : ∃ n cap p a cur, w.heap[r]? = some (.cells (srCells G n cap p d e a) 84 (0, 0)) ∧ w.heap[G]? = some (.cells cur 87 (0, 0)) ∧ p + us.length = n ∧ n ≤ cap ∧ cap ≤ maxLen ∧ n ≤ 8193 ∧
    ∀ i (hi : i < us.length), cur[(p + i) * 3]? = some (.int .i64 us[i].kind) ∧ cur[(p + i) * 3 + 1]? = some (.string ⟨us[i].text.toArray⟩) ∧ cur[(p + i) * 3 + 2]? = some (.int .i64 us[i].place)
  above : B ≤ r
  deep : d ≤ 10000
  bad : e ≤ 10
  ends : Lex.Ends us
section
variable {B G : Nat} {w w' : World} {r : Nat} {us : List Tok} {d e : Nat}
theorem SR.lt (h : SR B G w r us d e) : r < w.heap.size := by
  obtain ⟨n, cap, p, a, cur, h1, _⟩ := h.lie
  exact (Array.getElem?_eq_some_iff.1 h1).1
theorem SR.chg {S : Nat → Prop} (h : SR B G w r us d e) (hc : Chg S w w') (hs : ∀ k, S k → k ≠ r ∧ k ≠ G) : SR B G w' r us d e := by
  obtain ⟨⟨n, cap, p, a, cur, h1, h2, h3⟩, hab, hd, he, hg⟩ := h
  exact ⟨⟨n, cap, p, a, cur, hc.heap h1 (fun s => (hs r s).1 rfl), hc.heap h2 (fun s => (hs G s).2 rfl), h3⟩, hab, hd, he, hg⟩
theorem SR.kept (h : SR B G w r us d e) (hk : Kept w w') : SR B G w' r us d e :=
  h.chg (S := fun _ => False) (Chg.of_kept hk) fun _ s => s.elim
theorem SR.apart (h : SR B G w r us d e) {k : Nat} {c : Array Value} {t : TypeId} {z : Nat × Nat} (hk : w.heap[k]? = some (.cells c t z)) (h1 : t ≠ 84) (h2 : t ≠ 87) : k ≠ r ∧ k ≠ G := by
  obtain ⟨n, cap, p, a, cur, e1, e2, _⟩ := h.lie
  exact ⟨ne_of_ty hk e1 h1, ne_of_ty hk e2 h2⟩
theorem SR.head (h : SR B G w r us d e) :
    ∃ t us' n cap p a, us = t :: us' ∧ (t.kind ≠ 0 → Lex.Ends us') ∧ t.kind ≤ 4 ∧ t.place ≤ 8192 ∧ t.text.length ≤ 8192 ∧ w.cell? ⟨r, 0, none⟩ = some (.slice (some ⟨G, 0, none⟩) n cap) ∧ w.cell? ⟨r, 1, none⟩ = some (.int .i64 (p : Nat)) ∧ w.cell? ⟨r, 2, none⟩ = some (.int .i64 d) ∧ w.cell? ⟨r, 3, none⟩ = some (.int .i64 e) ∧ w.cell? ⟨r, 4, none⟩ = some (.int .i64 (a : Nat)) ∧
      (∀ o, w.frozen? ⟨r, o, none⟩ = false) ∧ d ≤ 10000 ∧
      p < n ∧ n ≤ cap ∧ cap ≤ maxLen ∧ n ≤ 8193 ∧ r < w.heap.size ∧ G < w.heap.size ∧
      w.cell? ⟨G, p * 3, none⟩ = some (.int .i64 t.kind) ∧ w.cell? ⟨G, p * 3 + 1, none⟩ = some (.string ⟨t.text.toArray⟩) ∧ w.cell? ⟨G, p * 3 + 2, none⟩ = some (.int .i64 t.place) := by
  obtain ⟨⟨n, cap, p, a, cur, h1, h2, h3, h4, h5, h6, h7⟩, hab, hd, he, hg⟩ := h
  obtain ⟨t, us', rfl, g1, g2, g3, g4⟩ := ends_head hg
  have hx := h7 0 (by simp)
  simp only [List.getElem_cons_zero, Nat.add_zero] at hx
  refine ⟨t, us', n, cap, p, a, rfl, g4, g3, g2, g1, box_cell h1 0 _ rfl, box_cell h1 1 _ rfl, box_cell h1 2 _ rfl, box_cell h1 3 _ rfl, box_cell h1 4 _ rfl, box_froz h1, hd, by simp at h3; omega, h4, h5, h6, (Array.getElem?_eq_some_iff.1 h1).1, (Array.getElem?_eq_some_iff.1 h2).1, ?_, ?_, ?_⟩
  · simp [World.cell?, h2, hx.1]
  · simp [World.cell?, h2, hx.2.1]
  · simp [World.cell?, h2, hx.2.2]
theorem SR.next {t : Tok} {p : Nat} (h : SR B G w r (t :: us) d e) (hu : Lex.Ends us) (hp : w.cell? ⟨r, 1, none⟩ = some (.int .i64 (p : Nat))) :
    SR B G (w.setCell ⟨r, 1, none⟩ (.int .i64 ((p : Int) + 1))) r us d e ∧ Chg (fun k => k = r) w (w.setCell ⟨r, 1, none⟩ (.int .i64 ((p : Int) + 1))) := by
  have hc : Chg (fun k => k = r) w (w.setCell ⟨r, 1, none⟩ (.int .i64 ((p : Int) + 1))) := (Chg.refl (fun k => k = r) w).setCell (fun _ => rfl) _
  obtain ⟨⟨n, cap, p', a, cur, h1, h2, h3, h4, h5, h6, h7⟩, hab, hd, he, hg⟩ := h
  have hpp : p' = p := by
    have := box_cell h1 1 _ rfl
    rw [hp] at this; simp [srCells] at this; omega
  subst hpp
  refine ⟨⟨⟨n, cap, p' + 1, a, cur, ?_, hc.heap h2 (fun e => ne_of_ty h2 h1 (by decide) e), by simp at h3; omega, h4, h5, h6, fun i hi => ?_⟩, hab, hd, he, hu⟩, hc⟩
  · rw [heap_setCell_same _ _ _ _ _ _ h1]; simp [srCells]
  · have := h7 (i + 1) (by simp; omega)
    simp only [List.getElem_cons_succ] at this
    rw [show p' + 1 + i = p' + (i + 1) by omega]; exact this
theorem SR.dive (d' : Nat) (h : SR B G w r us d e) (hd' : d' ≤ 10000) :
    SR B G (w.setCell ⟨r, 2, none⟩ (.int .i64 d')) r us d' e ∧ Chg (fun k => k = r) w (w.setCell ⟨r, 2, none⟩ (.int .i64 d')) := by
  have hc : Chg (fun k => k = r) w (w.setCell ⟨r, 2, none⟩ (.int .i64 d')) := (Chg.refl (fun k => k = r) w).setCell (fun _ => rfl) _
  obtain ⟨⟨n, cap, p', a, cur, h1, h2, h3⟩, hab, hd, he, hg⟩ := h
  refine ⟨⟨⟨n, cap, p', a, cur, ?_, hc.heap h2 (fun e => ne_of_ty h2 h1 (by decide) e), h3⟩, hab, hd', he, hg⟩, hc⟩
  rw [heap_setCell_same _ _ _ _ _ _ h1]; simp [srCells]
theorem SR.fails (e' a' : Nat) (h : SR B G w r us d e) (he' : e' ≤ 10) :
    SR B G ((w.setCell ⟨r, 3, none⟩ (.int .i64 e')).setCell ⟨r, 4, none⟩ (.int .i64 a')) r us d e' ∧ Chg (fun k => k = r) w ((w.setCell ⟨r, 3, none⟩ (.int .i64 e')).setCell ⟨r, 4, none⟩ (.int .i64 a')) := by
  have hc : Chg (fun k => k = r) w ((w.setCell ⟨r, 3, none⟩ (.int .i64 e')).setCell ⟨r, 4, none⟩ (.int .i64 a')) := ((Chg.refl (fun k => k = r) w).setCell (p := ⟨r, 3, none⟩) (fun _ => rfl) _).setCell (p := ⟨r, 4, none⟩) (fun _ => rfl) _
  obtain ⟨⟨n, cap, p', a, cur, h1, h2, h3⟩, hab, hd, he, hg⟩ := h
  refine ⟨⟨⟨n, cap, p', a', cur, ?_, hc.heap h2 (fun e => ne_of_ty h2 h1 (by decide) e), h3⟩, hab, hd, he', hg⟩, hc⟩
  have e1 := heap_setCell_same w r 3 _ _ (.int .i64 e') h1
  have e2 := heap_setCell_same _ r 4 _ _ (.int .i64 a') e1
  rw [e2]; simp [srCells]
theorem SR.deep_cell (h : SR B G w r us d e) : w.cell? ⟨r, 2, none⟩ = some (.int .i64 d) ∧ w.frozen? ⟨r, 2, none⟩ = false ∧ r < w.heap.size ∧ d ≤ 10000 := by
  obtain ⟨n, cap, p, a, cur, h1, _⟩ := h.lie
  exact ⟨box_cell h1 2 _ rfl, box_froz h1 2, (Array.getElem?_eq_some_iff.1 h1).1, h.deep⟩
theorem SR.bad_cell (h : SR B G w r us d e) : w.cell? ⟨r, 3, none⟩ = some (.int .i64 e) ∧ r < w.heap.size ∧ e ≤ 10 := by
  obtain ⟨n, cap, p, a, cur, h1, _⟩ := h.lie
  exact ⟨box_cell h1 3 _ rfl, (Array.getElem?_eq_some_iff.1 h1).1, h.bad⟩
end
section
variable {B G r d e : Nat} {us : List Tok}
set_option maxRecDepth 100000 in
set_option maxHeartbeats 2000000 in
theorem here_any (w : World) (h : SR B G w r us d e) : Calls Try.prog 57 #[.pointer (some ⟨r, 0, none⟩)] w fun x w' => ∃ a : Nat, x = .returned (.int .i64 a) ∧ Hid (a ≤ 8192 ∧ Kept w w') := by
  obtain ⟨t, us', n, cap, p, a, rfl, hu, g1, g2, g3, c0, c1, c2, c3, c4, fr, g4, hp, hn, hm, h8, hr, hG, k0, k1, k2⟩ := h.head
  simp only [maxLen] at hm
  clear h
  go_enter Try.func57, Try.ntmps57
  go_wp2
  go_quiet (fail)
  go_wp2
  go_ret
  exact ⟨t.place, rfl, Lib.hid ⟨g2, (Kept.refl _).drewN _⟩⟩
set_option maxRecDepth 100000 in
set_option maxHeartbeats 2000000 in
theorem fail_any (w : World) (c : Nat) (hc : 0 < c ∧ c ≤ 10) (h : SR B G w r us d e) : Calls Try.prog 31 #[.pointer (some ⟨r, 0, none⟩), .int .i64 c] w fun x w' => x = .returned (.tuple #[]) ∧ Hid (∃ e', 0 < e' ∧ SR B G w' r us d e' ∧ Chg (fun k => k = r) w w') := by
  obtain ⟨t, us', n, cap, p, a, rfl, hu, g1, g2, g3, c0, c1, c2, c3, c4, fr, g4, hp, hn, hm, h8, hr, hG, k0, k1, k2⟩ := h.head
  have H := Lib.hid h
  have hne : G ≠ r := by
    obtain ⟨n, cap, p, a, cur, h1, h2, _⟩ := h.lie
    exact ne_of_ty h2 h1 (by decide)
  simp only [maxLen] at hm
  clear h hu
  rcases (show e = 0 ∨ 0 < e by omega) with rfl | he
  · have c3 : w.cell? ⟨r, 3, none⟩ = some (.int .i64 0) := c3
    go_enter Try.func31, Try.ntmps31
    go_wp2
    go_region
    all_goals
      go_wp2
      have hx := H.out.fails c t.place hc.2
      exact bodyPost_end (results_none rfl _ _ _) rfl ⟨rfl, Lib.hid ⟨c, hc.1, hx.1.kept ((Kept.refl _).drew), hx.2.drew⟩⟩
  · have hb : ((e : Int) == 0) = false := by rw [beq_eq_false_iff_ne]; omega
    go_enter Try.func31, Try.ntmps31
    go_wp2
    exact bodyPost_end (results_none rfl _ _ _) rfl ⟨rfl, Lib.hid ⟨e, he, H.out, Chg.refl _ _⟩⟩
/-- What is tells. -/
def isB (us : List Tok) (e : Nat) (s : List UInt8) : Bool := match us with
  | [] => false
  | t :: _ => decide (e = 0 ∧ (t.kind = 4 ∨ t.kind = 3) ∧ t.text = s)
theorem isB_cons (t : Tok) (us : List Tok) (e : Nat) (s : List UInt8) : isB (t :: us) e s = decide (e = 0 ∧ (t.kind = 4 ∨ t.kind = 3) ∧ t.text = s) := rfl
theorem isB_yes {s : List UInt8} (hu : Lex.Ends us) (h : isB us e s = true) : e = 0 ∧ ∃ t us', us = t :: us' ∧ (t.kind = 4 ∨ t.kind = 3) ∧ Lex.Ends us' ∧ t.text = s := by
  obtain ⟨t, us', rfl, g1, g2, g3, g4⟩ := ends_head hu
  unfold isB at h
  obtain ⟨h1, h2, h3⟩ := of_decide_eq_true h
  exact ⟨h1, t, us', rfl, h2, g4 (by omega), h3⟩
theorem isB_bad (us : List Tok) {e : Nat} (s : List UInt8) (h : e ≠ 0) : isB us e s = false := by
  unfold isB
  cases us with
  | nil => rfl
  | cons t us => exact decide_eq_false (fun h1 => h h1.1)
set_option maxRecDepth 100000 in
set_option maxHeartbeats 2000000 in
theorem is_any (w : World) (s : List UInt8) (h : SR B G w r us d e) : Calls Try.prog 56 #[.pointer (some ⟨r, 0, none⟩), .string ⟨s.toArray⟩] w fun x w' => x = .returned (.bool (isB us e s)) ∧ Kept w w' := by
  obtain ⟨t, us', n, cap, p, a, rfl, hu, g1, g2, g3, c0, c1, c2, c3, c4, fr, g4, hp, hn, hm, h8, hr, hG, k0, k1, k2⟩ := h.head
  simp only [maxLen] at hm
  clear h hu
  rw [isB_cons]
  rcases (show e ≠ 0 ∨ (e = 0 ∧ (t.kind = 4 ∨ t.kind = 3)) ∨ (e = 0 ∧ t.kind ≠ 4 ∧ t.kind ≠ 3) by omega) with he | ⟨rfl, hk⟩ | ⟨rfl, h4, h3⟩
  · have hb : ((e : Int) == 0) = false := by rw [beq_eq_false_iff_ne]; omega
    rw [decide_eq_false (fun h1 => he h1.1)]
    go_enter Try.func56, Try.ntmps56
    go_wp2
    go_region
    all_goals
      go_wp2
      go_ret
      exact ⟨rfl, ((Kept.refl w).alloc _).drew⟩
  · have c3 : w.cell? ⟨r, 3, none⟩ = some (.int .i64 0) := c3
    have hst : (t.text == s) = decide (t.text = s) := by by_cases e : t.text = s <;> simp [e]
    have hdd : decide (0 = 0 ∧ (t.kind = 4 ∨ t.kind = 3) ∧ t.text = s) = decide (t.text = s) := by
      by_cases h : t.text = s
      · rw [decide_eq_true h, decide_eq_true ⟨rfl, hk, h⟩]
      · rw [decide_eq_false h, decide_eq_false (fun h1 => h h1.2.2)]
    rw [hdd]
    clear hdd
    rcases hk with hk | hk
    all_goals
      rw [hk] at k0
      go_enter Try.func56, Try.ntmps56
      go_wp2
      go_region
    all_goals
      go_wp2
      go_ret
      exact ⟨rfl, ((Kept.refl w).alloc _).drew⟩
  · have c3 : w.cell? ⟨r, 3, none⟩ = some (.int .i64 0) := c3
    have e4 : ((t.kind : Int) == 4) = false := by rw [beq_eq_false_iff_ne]; omega
    have e3 : ((t.kind : Int) == 3) = false := by rw [beq_eq_false_iff_ne]; omega
    rw [decide_eq_false (fun h1 => by rcases h1.2.1 with h | h <;> omega)]
    go_enter Try.func56, Try.ntmps56
    go_wp2
    go_region
    all_goals
      go_wp2
      go_ret
      exact ⟨rfl, ((Kept.refl w).alloc _).drew⟩
theorem take_no (w : World) (s : List UInt8) (h : SR B G w r us d e) (hb : isB us e s = false) : Calls Try.prog 71 #[.pointer (some ⟨r, 0, none⟩), .string ⟨s.toArray⟩] w fun x w' => x = .returned (.bool false) ∧ Hid (Kept w w') := by
  have HI := Lib.hid (is_any w s h)
  rw [hb] at HI
  clear h hb
  go_enter Try.func71, Try.ntmps71
  go_wp2_with (first | (go_at_call 56; refine HI.out.mono ?_; rintro x w1 ⟨rfl, h1⟩; have H1 := Lib.hid h1; clear h1))
  go_ret
  exact ⟨rfl, H1⟩
theorem take_yes (w : World) (s : List UInt8) (h : SR B G w r us d e) (hb : isB us e s = true) : Calls Try.prog 71 #[.pointer (some ⟨r, 0, none⟩), .string ⟨s.toArray⟩] w fun x w' => x = .returned (.bool true) ∧ Hid (∃ us', e = 0 ∧ us'.length + 1 = us.length ∧ Chg (fun k => k = r) w w' ∧ SR B G w' r us' d 0) := by
  have HI := Lib.hid (is_any w s h)
  rw [hb] at HI
  obtain ⟨rfl, t, us', rfl, hk, he, ht⟩ := isB_yes h.ends hb
  have H := Lib.hid h
  clear h hb
  go_enter Try.func71, Try.ntmps71
  go_wp2_with (first | (go_at_call 56; refine HI.out.mono ?_; rintro x w1 ⟨rfl, h1⟩; have H1 := Lib.hid h1; clear h1; have H2 := Lib.hid (H.out.kept H1.out); obtain ⟨t3, us3, n, cap, p, a, hus, hu, g1, g2, g3, c0, c1, c2, c3, c4, fr, g4, hp, hn, hm, h8, hr, hG, k0, k1, k2⟩ := H2.out.head))
  go_ret
  have hx := H2.out.next he c1
  exact ⟨rfl, Lib.hid ⟨us', by simp, by simp, (Chg.of_kept H1.out).then hx.2, hx.1⟩⟩
theorem want_no (w : World) (s : List UInt8) (h : SR B G w r us d e) (hb : isB us e s = false) : Calls Try.prog 58 #[.pointer (some ⟨r, 0, none⟩), .string ⟨s.toArray⟩] w fun x w' => x = .returned (.tuple #[]) ∧ Hid (∃ e', 0 < e' ∧ Chg (fun k => k = r) w w' ∧ SR B G w' r us d e') := by
  have HT := Lib.hid (take_no w s h hb)
  have HF : Hid (∀ w1, SR B G w1 r us d e → Calls Try.prog 31 #[.pointer (some ⟨r, 0, none⟩), .int .i64 5] w1 fun x w' => x = .returned (.tuple #[]) ∧ Hid (∃ e', 0 < e' ∧ SR B G w' r us d e' ∧ Chg (fun k => k = r) w1 w')) := Lib.hid fun w1 h1 => fail_any w1 5 (by omega) h1
  have H := Lib.hid h
  clear h hb
  go_enter Try.func58, Try.ntmps58
  go_wp2_with (first | (go_at_call 71; refine HT.out.mono ?_; rintro x w1 ⟨rfl, H1⟩) | (go_at_call 31; refine (HF.out _ (H.out.kept H1.out)).mono ?_; rintro x w2 ⟨rfl, H2⟩))
  obtain ⟨e', h1, h2, h3⟩ := H2.out
  exact bodyPost_end (results_none rfl _ _ _) rfl ⟨rfl, Lib.hid ⟨e', h1, (Chg.of_kept H1.out).then h3, h2⟩⟩
theorem want_yes (w : World) (s : List UInt8) (h : SR B G w r us d e) (hb : isB us e s = true) : Calls Try.prog 58 #[.pointer (some ⟨r, 0, none⟩), .string ⟨s.toArray⟩] w fun x w' => x = .returned (.tuple #[]) ∧ Hid (∃ us', e = 0 ∧ us'.length + 1 = us.length ∧ Chg (fun k => k = r) w w' ∧ SR B G w' r us' d 0) := by
  have HT := Lib.hid (take_yes w s h hb)
  clear h hb
  go_enter Try.func58, Try.ntmps58
  go_wp2_with (first | (go_at_call 71; refine HT.out.mono ?_; rintro x w1 ⟨rfl, H1⟩))
  exact bodyPost_end (results_none rfl _ _ _) rfl ⟨rfl, H1⟩
/-- What want leaves: one token less, or an error. -/
theorem want_any (w : World) (s : List UInt8) (h : SR B G w r us d e) : Calls Try.prog 58 #[.pointer (some ⟨r, 0, none⟩), .string ⟨s.toArray⟩] w fun x w' => x = .returned (.tuple #[]) ∧ Hid (∃ us' e', Chg (fun k => k = r) w w' ∧ SR B G w' r us' d e' ∧ us'.length ≤ us.length ∧ (e' = 0 → e = 0 ∧ us'.length + 1 = us.length)) := by
  cases hb : isB us e s with
  | false =>
    refine (want_no w s h hb).mono ?_
    rintro x w1 ⟨rfl, H1⟩
    obtain ⟨e', h1, h2, h3⟩ := H1.out
    exact ⟨rfl, Lib.hid ⟨us, e', h2, h3, Nat.le_refl _, fun h => by omega⟩⟩
  | true =>
    refine (want_yes w s h hb).mono ?_
    rintro x w1 ⟨rfl, H1⟩
    obtain ⟨us', h0, h1, h2, h3⟩ := H1.out
    exact ⟨rfl, Lib.hid ⟨us', 0, h2, h3, by omega, fun _ => ⟨h0, h1⟩⟩⟩
theorem open_any (w : World) (s : List UInt8) (h : SR B G w r us d e) (hd : d ≤ 9000) : Calls Try.prog 89 #[.pointer (some ⟨r, 0, none⟩), .string ⟨s.toArray⟩] w fun x w' => x = .returned (.tuple #[]) ∧ Hid (∃ us' e', Chg (fun k => k = r) w w' ∧ SR B G w' r us' (d + 1) e' ∧ us'.length ≤ us.length ∧ (e' = 0 → e = 0 ∧ us'.length + 1 = us.length ∧ d < 30)) := by
  have HI := Lib.hid (is_any w s h)
  have H := Lib.hid h
  have HF : Hid (∀ w1, SR B G w1 r us d e → Calls Try.prog 31 #[.pointer (some ⟨r, 0, none⟩), .int .i64 6] w1 fun x w' => x = .returned (.tuple #[]) ∧ Hid (∃ e', 0 < e' ∧ SR B G w' r us d e' ∧ Chg (fun k => k = r) w1 w')) := Lib.hid fun w1 h1 => fail_any w1 6 (by omega) h1
  have HW : Hid (∀ w1 e1, SR B G w1 r us d e1 → isB us e1 s = false → Calls Try.prog 58 #[.pointer (some ⟨r, 0, none⟩), .string ⟨s.toArray⟩] w1 fun x w' => x = .returned (.tuple #[]) ∧ Hid (∃ e', 0 < e' ∧ Chg (fun k => k = r) w1 w' ∧ SR B G w' r us d e')) := Lib.hid fun w1 e1 h1 h2 => want_no w1 s h1 h2
  obtain ⟨d2, g2, l2, m2⟩ := h.deep_cell
  cases hb : isB us e s with
  | false =>
    rw [hb] at HI
    have HB := Lib.hid hb
    clear h d2 g2 l2 hb
    go_enter Try.func89, Try.ntmps89
    go_wp2_with (first | (go_at_call 56; refine HI.out.mono ?_; rintro x w1 ⟨rfl, h1⟩; have H1 := Lib.hid h1; clear h1; have H2 := Lib.hid (H.out.kept H1.out)) | (go_at_call 58; refine (HW.out _ _ H2.out HB.out).mono ?_; rintro x w2 ⟨rfl, H3⟩; obtain ⟨e', h1, h2, h3⟩ := H3.out; obtain ⟨d2, g2, l2, m2⟩ := h3.deep_cell; have H4 := Lib.hid (And.intro h2 h3); clear h2 h3))
    have hx := H4.out.2.dive (d + 1) (by omega)
    exact bodyPost_end (results_none rfl _ _ _) rfl ⟨rfl, Lib.hid ⟨us, e', ((Chg.of_kept H1.out).then H4.out.1).then hx.2, hx.1, Nat.le_refl _, fun h => by omega⟩⟩
  | true =>
    rw [hb] at HI
    have HB := Lib.hid hb
    obtain ⟨rfl, -⟩ := isB_yes h.ends hb
    have HY : Hid (∀ w1, SR B G w1 r us d 0 → Calls Try.prog 58 #[.pointer (some ⟨r, 0, none⟩), .string ⟨s.toArray⟩] w1 fun x w' => x = .returned (.tuple #[]) ∧ Hid (∃ us', 0 = 0 ∧ us'.length + 1 = us.length ∧ Chg (fun k => k = r) w1 w' ∧ SR B G w' r us' d 0)) := Lib.hid fun w1 h1 => want_yes w1 s h1 hb
    clear h d2 g2 l2 hb
    rcases (show d < 30 ∨ 30 ≤ d by omega) with h30 | h30
    · go_enter Try.func89, Try.ntmps89
      go_wp2_with (first | (go_at_call 56; refine HI.out.mono ?_; rintro x w1 ⟨rfl, h1⟩; have H1 := Lib.hid h1; clear h1; have H2 := Lib.hid (H.out.kept H1.out); obtain ⟨d1, g1, l1, m1⟩ := H2.out.deep_cell) | (go_at_call 58; refine (HY.out _ H2.out).mono ?_; rintro x w2 ⟨rfl, H3⟩; obtain ⟨us', -, h1, h2, h3⟩ := H3.out; obtain ⟨d2, g2, l2, m2⟩ := h3.deep_cell; have H4 := Lib.hid (And.intro h2 h3); clear h2 h3))
      have hx := H4.out.2.dive (d + 1) (by omega)
      exact bodyPost_end (results_none rfl _ _ _) rfl ⟨rfl, Lib.hid ⟨us', 0, ((Chg.of_kept H1.out).then H4.out.1).then hx.2, hx.1, by omega, fun _ => ⟨by simp, h1, h30⟩⟩⟩
    · go_enter Try.func89, Try.ntmps89
      go_wp2_with (first | (go_at_call 56; refine HI.out.mono ?_; rintro x w1 ⟨rfl, h1⟩; have H1 := Lib.hid h1; clear h1; have H2 := Lib.hid (H.out.kept H1.out); obtain ⟨d1, g1, l1, m1⟩ := H2.out.deep_cell) | (go_at_call 31; refine (HF.out _ H2.out).mono ?_; rintro x w3 ⟨rfl, H5⟩; obtain ⟨e5, p1, p2, p3⟩ := H5.out; have H6 := Lib.hid (And.intro p2 p3); clear p2 p3; have hB5 := Lib.hid (isB_bad us s (show e5 ≠ 0 by omega))) | (go_at_call 58; refine (HW.out _ _ H6.out.1 hB5.out).mono ?_; rintro x w2 ⟨rfl, H3⟩; obtain ⟨e', h1, h2, h3⟩ := H3.out; obtain ⟨d2, g2, l2, m2⟩ := h3.deep_cell; have H4 := Lib.hid (And.intro h2 h3); clear h2 h3))
      have hx := H4.out.2.dive (d + 1) (by omega)
      exact bodyPost_end (results_none rfl _ _ _) rfl ⟨rfl, Lib.hid ⟨us, e', (((Chg.of_kept H1.out).then H6.out.2).then H4.out.1).then hx.2, hx.1, Nat.le_refl _, fun h => by omega⟩⟩
end
end Go.Proofs.Ytnlkcjbnmkpnhaa.Srd
namespace Go.Proofs.Ytnlkcjbnmkpnhaa.Srd
open Go.RowKit
open Lex (Tok Sane)
open Prs (Ex)
open Rpr (Chg box_cell box_froz ne_of_ty exCells exCell Pushed own_stay own_at own_form)

def pot (e : Nat) : Nat := if e = 0 then 1 else 0
theorem pot_zero : pot 0 = 1 := rfl
theorem pot_le (e : Nat) : pot e ≤ 1 := by unfold pot; split <;> omega
theorem pot_pos {e : Nat} (h : 0 < e) : pot e = 0 := by unfold pot; rw [if_neg (by omega)]
/-- Kids stand ahead of their nodes. -/
def DownE (l : List Ex) : Prop := ∀ i (h : i < l.length), l[i].a < i ∧ l[i].b < i
def NodeOk (n : Ex) : Prop := 1 ≤ n.kind ∧ n.kind ≤ 18 ∧ n.ty ≤ 6 ∧ n.num ≤ 9999999999 ∧ n.name.length ≤ 8192 ∧ n.place ≤ 8192 ∧ -1 ≤ n.a ∧ -1 ≤ n.b
/-- Its kids are there. -/
def Real (n : Ex) : Prop := (n.kind = 3 ∨ n.kind = 4 ∨ 6 ≤ n.kind → 0 ≤ n.a) ∧ (8 ≤ n.kind ∧ n.kind ≤ 17 → 0 ≤ n.b)
structure Nodes (e : Nat) (l : List Ex) : Prop where
  down : DownE l
  ok : ∀ n ∈ l, NodeOk n
  real : e = 0 → ∀ n ∈ l, Real n
theorem Nodes.nil (e : Nat) : Nodes e [] := ⟨fun i h => by simp at h, fun n h => (by cases h), fun _ n h => (by cases h)⟩
theorem Nodes.push {e : Nat} {l : List Ex} {n : Ex} (h : Nodes e l) (h1 : NodeOk n) (h2 : e = 0 → Real n) (ha : n.a < l.length) (hb : n.b < l.length) : Nodes e (l ++ [n]) := by
  refine ⟨fun i hi => ?_, fun m hm => ?_, fun he m hm => ?_⟩
  · by_cases hl : i < l.length
    · rw [List.getElem_append_left hl]; exact h.down i hl
    · obtain rfl : i = l.length := by simp at hi; omega
      simpa using ⟨ha, hb⟩
  · rcases List.mem_append.1 hm with hm | hm
    · exact h.ok m hm
    · obtain rfl : m = n := by simpa using hm
      exact h1
  · rcases List.mem_append.1 hm with hm | hm
    · exact h.real he m hm
    · obtain rfl : m = n := by simpa using hm
      exact h2 he
theorem Nodes.bad {e e' : Nat} {l : List Ex} (h : Nodes e l) (he : e' = 0 → e = 0) : Nodes e' l := ⟨h.down, h.ok, fun h0 => h.real (he h0)⟩
structure SIn (B G : Nat) (w : World) (r : Nat) (v : Value) (us : List Tok) (d e : Nat) (l : List Ex) : Prop where
  rd : SR B G w r us d e
  own : w.ownsRow B 51 7 v l.length (exCells l)
  sz : l.length + us.length + pot e ≤ 8194
  nodes : Nodes e l
structure SMid (B G r : Nat) (v : Value) (w w' : World) (v' : Value) (us us' : List Tok) (d' e e' : Nat) (l l' : List Ex) : Prop where
  chg : Chg (fun k => k = r ∨ v.ownBlock = some k) w w'
  at_ : v'.ownBlock = v.ownBlock ∨ ∃ g, v'.ownBlock = some g ∧ w.heap.size ≤ g
  to : SIn B G w' r v' us' d' e' l'
  less : us'.length ≤ us.length
  more : l.length ≤ l'.length
  pots : l'.length + us'.length + pot e' ≤ l.length + us.length + pot e
  bad : e' = 0 → e = 0
section
variable {B G : Nat} {w w1 w2 w' : World} {r : Nat} {v v1 v2 v' : Value} {us us1 us2 us' : List Tok} {d d1 d' e e1 e2 e' : Nat} {l l1 l2 l' : List Ex}
theorem SIn.base (h : SIn B G w r v us d e l) : B ≤ w.heap.size := by have := h.rd.above; have := h.rd.lt; omega
theorem SIn.no (h : SIn B G w r v us d e l) {g : Nat} (hg : v.ownBlock = some g) : g ≠ r ∧ g ≠ G := by
  obtain ⟨_, c, hc⟩ := own_at h.own hg
  exact h.rd.apart hc (by decide) (by decide)
theorem SIn.len (h : SIn B G w r v us d e l) : 1 ≤ us.length ∧ l.length ≤ 8193 ∧ us.length ≤ 8194 := by
  obtain ⟨t, us', h1, _⟩ := ends_head h.rd.ends
  have h2 := h.sz
  rw [h1] at h2 ⊢
  simp at h2 ⊢
  omega
theorem SMid.refl (h : SIn B G w r v us d e l) : SMid B G r v w w v us us d e e l l := ⟨Chg.refl _ _, .inl rfl, h, Nat.le_refl _, Nat.le_refl _, Nat.le_refl _, id⟩
theorem SMid.reader (h : SIn B G w r v us d e l) (hc : Chg (fun k => k = r) w w') (hr : SR B G w' r us' d' e') (h1 : us'.length ≤ us.length) (h2 : us'.length + pot e' ≤ us.length + pot e) (h3 : e' = 0 → e = 0) : SMid B G r v w w' v us us' d' e e' l l :=
  ⟨hc.mono fun _ _ e => .inl e, .inl rfl, ⟨hr, own_stay h.own hc (fun _ hg => (h.no hg).1), by have := h.sz; omega, h.nodes.bad h3⟩, h1, Nat.le_refl _, by omega, h3⟩
theorem SMid.trans (h : SMid B G r v w w1 v1 us us1 d1 e e1 l l1) (k : SMid B G r v1 w1 w2 v2 us1 us2 d' e1 e2 l1 l2) : SMid B G r v w w2 v2 us us2 d' e e2 l l2 := by
  refine ⟨h.chg.trans k.chg fun i hi hs => ?_, ?_, k.to, Nat.le_trans k.less h.less, Nat.le_trans h.more k.more, Nat.le_trans k.pots h.pots, fun h0 => h.bad (k.bad h0)⟩
  · rcases hs with hs | hs
    · exact .inl hs
    · rcases h.at_ with e | ⟨g, e, hg⟩
      · exact .inr (e ▸ hs)
      · rw [e] at hs; injection hs with hs; omega
  · rcases k.at_ with e | ⟨g, e, hg⟩
    · rcases h.at_ with e' | h'
      · exact .inl (e.trans e')
      · exact .inr (e ▸ h')
    · exact .inr ⟨g, e, Nat.le_trans h.chg.size hg⟩
theorem SMid.kept (h : SMid B G r v w w1 v1 us us1 d1 e e1 l l1) (hk : Kept w1 w2) : SMid B G r v w w2 v1 us us1 d1 e e1 l l1 :=
  h.trans (SMid.reader h.to (Chg.of_kept hk) (h.to.rd.kept hk) (Nat.le_refl _) (Nat.le_refl _) id)
/-- A node more. -/
theorem SMid.push {n : Ex} (h : SMid B G r v w w1 v1 us us1 d1 e e1 l l1) (hp : Pushed B v1 w1 l1 n w2 v2) (hs : l1.length + 1 + us1.length + pot e1 ≤ l.length + us.length + pot e) (h0 : l.length + us.length + pot e ≤ 8194) (h1 : NodeOk n) (h2 : e1 = 0 → Real n) (ha : n.a < l1.length) (hb : n.b < l1.length) : SMid B G r v w w2 v2 us us1 d1 e e1 l (l1 ++ [n]) := by
  refine ⟨h.chg.trans hp.chg fun i hi hs => ?_, ?_, ⟨h.to.rd.chg hp.chg (fun _ hk => h.to.no hk), hp.own, by simp; omega, h.to.nodes.push h1 h2 ha hb⟩, h.less, by have := h.more; simp; omega, by simp; omega, h.bad⟩
  · rcases h.at_ with e | ⟨g, e, hg⟩
    · exact .inr (e ▸ hs)
    · rw [e] at hs; injection hs with hs; omega
  · rcases hp.at_ with e | ⟨g, e, hg⟩
    · rcases h.at_ with e' | h'
      · exact .inl (e.trans e')
      · exact .inr (e ▸ h')
    · exact .inr ⟨g, e, Nat.le_trans h.chg.size hg⟩
/-- What was there ahead stays, if neither the reader's nor the list's. -/
theorem SMid.heap (h : SMid B G r v w w1 v1 us us1 d1 e e1 l l1) (hi : SIn B G w r v us d e l) {k : Nat} {c : Array Value} {t : TypeId} (hk : w.heap[k]? = some (.cells c t (0, 0))) (h1 : t ≠ 84) (h2 : t ≠ 51) : w1.heap[k]? = some (.cells c t (0, 0)) := by
  refine h.chg.heap hk fun hs => ?_
  rcases hs with rfl | hs
  · obtain ⟨n, cap, p, a, cur, e1, _⟩ := hi.rd.lie
    exact ne_of_ty hk e1 h1 rfl
  · obtain ⟨_, c', hc'⟩ := own_at hi.own hs
    exact ne_of_ty hk hc' h2 rfl
end
/-- How much is left to read. -/
def meas (e : Nat) (us : List Tok) : Nat := if e = 0 then us.length else 0
/-- What a call that reads an expression tells. -/
def OutE (B G r : Nat) (v : Value) (us : List Tok) (d e : Nat) (l : List Ex) (w : World) (x : Ending) (w' : World) : Prop :=
  ∃ v' us' e' l', x = .returned v' ∧ Hid (SMid B G r v w w' v' us us' d e e' l l' ∧ (e' = 0 → us'.length < us.length ∧ l.length < l'.length))
def RowS (f lvl : Nat) : Prop := ∀ {B G r d e : Nat} {v : Value} {us : List Tok} {l : List Ex} (w : World), SIn B G w r v us d e l → d ≤ 31 → (e = 0 → d ≤ 30) → meas e us ≤ f →
  Calls Try.prog 100 #[.pointer (some ⟨r, 0, none⟩), v, .int .i64 lvl] w (OutE B G r v us d e l w)
def UnaryS (f : Nat) : Prop := ∀ {B G r d e : Nat} {v : Value} {us : List Tok} {l : List Ex} (w : World), SIn B G w r v us d e l → d ≤ 31 → (e = 0 → d ≤ 30) → meas e us ≤ f →
  Calls Try.prog 105 #[.pointer (some ⟨r, 0, none⟩), v] w (OutE B G r v us d e l w)
def InnerS (f : Nat) : Prop := ∀ {B G r d : Nat} {v : Value} {us : List Tok} {l : List Ex} {o c : List UInt8} (w : World), SIn B G w r v us d 0 l → d ≤ 30 → us.length ≤ f →
  Calls Try.prog 108 #[.pointer (some ⟨r, 0, none⟩), v, .string ⟨o.toArray⟩, .string ⟨c.toArray⟩] w (OutE B G r v us d 0 l w)
theorem expr_of {f : Nat} (H : RowS f 0) {B G r d e : Nat} {v : Value} {us : List Tok} {l : List Ex} (w : World) (h : SIn B G w r v us d e l) (hd : d ≤ 31) (hd2 : e = 0 → d ≤ 30) (hm : meas e us ≤ f) :
    Calls Try.prog 90 #[.pointer (some ⟨r, 0, none⟩), v] w (OutE B G r v us d e l w) := by
  have HR := Lib.hid (H w h hd hd2 hm)
  clear h H hd2 hm
  go_enter Try.func90, Try.ntmps90
  go_wp2_with (first | (go_at_call 100; refine HR.out.mono ?_; rintro x w1 ⟨v1, us1, e1, l1, rfl, H1⟩))
  go_ret
  exact ⟨_, _, _, _, rfl, H1⟩
set_option maxHeartbeats 1000000 in
theorem inner_step {f : Nat} (H : RowS f 0) : InnerS (f + 1) := by
  intro B G r d v us l o c w h hd hm
  have hlen := h.len.1
  have HO := Lib.hid (open_any w o h.rd (by omega))
  have HI := Lib.hid h
  have HX : Hid (∀ w1 us1 e1, Chg (fun k => k = r) w w1 → SR B G w1 r us1 (d + 1) e1 → us1.length ≤ us.length → (e1 = 0 → 0 = 0 ∧ us1.length + 1 = us.length ∧ d < 30) → ∃ (_ : SMid B G r v w w1 v us us1 (d + 1) 0 e1 l l), Calls Try.prog 90 #[.pointer (some ⟨r, 0, none⟩), v] w1 (OutE B G r v us1 (d + 1) e1 l w1)) := Lib.hid fun w1 us1 e1 hc1 hr1 hl1 he1 => by
    have hp : us1.length + pot e1 ≤ us.length + pot 0 := by have := pot_le e1; rw [pot_zero]; omega
    have hmid := SMid.reader HI.out hc1 hr1 hl1 hp (fun _ => rfl)
    refine ⟨hmid, expr_of H w1 hmid.to (by omega) (fun h0 => by have := he1 h0; omega) ?_⟩
    unfold meas
    split
    · rename_i h0; have := he1 h0; omega
    · omega
  clear h H
  go_enter Try.func108, Try.ntmps108
  go_wp2_with (first | (go_at_call 89; refine HO.out.mono ?_; rintro x w1 ⟨rfl, H1⟩; obtain ⟨us1, e1, c1, s1, l1, g1⟩ := H1.out; obtain ⟨m1, x1⟩ := HX.out _ _ _ c1 s1 l1 g1; have M1 := Lib.hid m1; have X1 := Lib.hid x1; have G1 := Lib.hid g1; clear c1 s1 m1 x1 g1 H1) | (go_at_call 90; refine X1.out.mono ?_; rintro x w2 ⟨v2, us2, e2, l2, rfl, H2⟩; have HWa := Lib.hid (want_any w2 c H2.out.1.to.rd)) | (go_at_call 58; refine HWa.out.mono ?_; rintro x w3 ⟨rfl, H3⟩; obtain ⟨us3, e3, c3, s3, q3, g3⟩ := H3.out; obtain ⟨dd, dg, dl, dm⟩ := s3.deep_cell; have S3 := Lib.hid (And.intro c3 (And.intro s3 g3)); clear c3 s3 g3 H3))
  have hx := S3.out.2.1.dive d (by omega)
  go_ret
  have m3 := SMid.reader H2.out.1.to (S3.out.1.then hx.2) hx.1 q3 (by have h1 := pot_le e3; have := S3.out.2.2; unfold pot at *; split <;> (try split) <;> omega) (fun h0 => (S3.out.2.2 h0).1)
  refine ⟨_, us3, e3, l2, rfl, Lib.hid ⟨(M1.out.trans H2.out.1).trans m3, fun h0 => ?_⟩⟩
  obtain ⟨h1, h2⟩ := S3.out.2.2 h0
  obtain ⟨h3, h4⟩ := H2.out.2 h1
  have h5 := M1.out.less
  exact ⟨by omega, h4⟩
end Go.Proofs.Ytnlkcjbnmkpnhaa.Srd
namespace Go.Proofs.Ytnlkcjbnmkpnhaa.Srd
open Go.RowKit
open Lex (Tok Sane)
open Prs (Ex readT)
open Rpr (Chg box_cell box_froz ne_of_ty exCells exCell Pushed own_stay own_at own_form tokV cells_of wpList_push step_push read_readT)

/-- Where unary stands once it has its token in a block of its own. -/
structure SU (B G r : Nat) (v : Value) (w : World) (us : List Tok) (l : List Ex) (b : Nat) (t : Tok) (wc : World) (v1 : Value) (us1 : List Tok) (d1 e1 : Nat) (l1 : List Ex) : Prop where
  mid : SMid B G r v w wc v1 us us1 d1 0 e1 l l1
  box : wc.heap[b]? = some (.cells (tokV t) 87 (0, 0))
section
variable {B G r d1 e1 b : Nat} {v v1 : Value} {w wc w' : World} {us us1 : List Tok} {l l1 : List Ex} {t : Tok}
theorem SU.cells (h : SU B G r v w us l b t wc v1 us1 d1 e1 l1) :
    wc.cell? ⟨b, 0, none⟩ = some (.int .i64 t.kind) ∧ wc.cell? ⟨b, 1, none⟩ = some (.string ⟨t.text.toArray⟩) ∧ wc.cell? ⟨b, 2, none⟩ = some (.int .i64 t.place) := cells_of h.box
theorem SU.step {v2 : Value} {us2 : List Tok} {d2 e2 : Nat} {l2 : List Ex} (h : SU B G r v w us l b t wc v1 us1 d1 e1 l1) (k : SMid B G r v1 wc w' v2 us1 us2 d2 e1 e2 l1 l2) : SU B G r v w us l b t w' v2 us2 d2 e2 l2 :=
  ⟨h.mid.trans k, k.heap h.mid.to h.box (by decide) (by decide)⟩
theorem SU.kept (h : SU B G r v w us l b t wc v1 us1 d1 e1 l1) (hk : Kept wc w') : SU B G r v w us l b t w' v1 us1 d1 e1 l1 :=
  h.step (SMid.reader h.mid.to (Chg.of_kept hk) (h.mid.to.rd.kept hk) (Nat.le_refl _) (Nat.le_refl _) id)
theorem u_start {d : Nat} (h : SIn B G w r v us d 0 l) : SU B G r v w us l w.heap.size t (w.alloc (.cells (tokV t) 87)).drew v us d 0 l :=
  have hk : Kept w (w.alloc (.cells (tokV t) 87)).drew := ((Kept.refl w).alloc _).drew
  ⟨SMid.reader h (Chg.of_kept hk) (h.rd.kept hk) (Nat.le_refl _) (Nat.le_refl _) id, heap_alloc_new w _⟩
theorem u_is {s : List UInt8} {x : Bool} (h : SU B G r v w us l b t wc v1 us1 d1 e1 l1) (hb : isB us1 e1 s = x) : Calls Try.prog 56 #[.pointer (some ⟨r, 0, none⟩), .string ⟨s.toArray⟩] wc fun y w' => y = .returned (.bool x) ∧ Hid (SU B G r v w us l b t w' v1 us1 d1 e1 l1) := by
  have := is_any wc s h.mid.to.rd
  rw [hb] at this
  exact this.mono fun _ _ ⟨h1, h2⟩ => ⟨h1, Lib.hid (h.kept h2)⟩
theorem u_take_no {s : List UInt8} (h : SU B G r v w us l b t wc v1 us1 d1 e1 l1) (hb : isB us1 e1 s = false) : Calls Try.prog 71 #[.pointer (some ⟨r, 0, none⟩), .string ⟨s.toArray⟩] wc fun y w' => y = .returned (.bool false) ∧ Hid (SU B G r v w us l b t w' v1 us1 d1 e1 l1) :=
  (take_no wc s h.mid.to.rd hb).mono fun _ _ ⟨h1, h2⟩ => ⟨h1, Lib.hid (h.kept h2.out)⟩
theorem u_take_yes {s : List UInt8} (h : SU B G r v w us l b t wc v1 us1 d1 0 l1) (hb : isB us1 0 s = true) : Calls Try.prog 71 #[.pointer (some ⟨r, 0, none⟩), .string ⟨s.toArray⟩] wc fun y w' => y = .returned (.bool true) ∧ Hid (∃ us2, us2.length + 1 = us1.length ∧ SU B G r v w us l b t w' v1 us2 d1 0 l1) := by
  refine (take_yes wc s h.mid.to.rd hb).mono ?_
  rintro y w' ⟨rfl, H⟩
  obtain ⟨us2, _, h1, h2, h3⟩ := H.out
  exact ⟨rfl, Lib.hid ⟨us2, h1, h.step (SMid.reader h.mid.to h2 h3 (by omega) (by omega) id)⟩⟩
theorem SU.next {p : Nat} {t1 : Tok} (h : SU B G r v w us l b t wc v1 (t1 :: us1) d1 0 l1) (hu : Lex.Ends us1) (hp : wc.cell? ⟨r, 1, none⟩ = some (.int .i64 (p : Nat))) : SU B G r v w us l b t (wc.setCell ⟨r, 1, none⟩ (.int .i64 ((p : Int) + 1))) v1 us1 d1 0 l1 := by
  have hx := h.mid.to.rd.next hu hp
  exact h.step (SMid.reader h.mid.to hx.2 hx.1 (by simp) (by simp) id)
theorem u_inner {f : Nat} (HI : InnerS f) {o c : List UInt8} (h : SU B G r v w us l b t wc v1 us1 d1 0 l1) (hd : d1 ≤ 30) (hf : us1.length ≤ f) : Calls Try.prog 108 #[.pointer (some ⟨r, 0, none⟩), v1, .string ⟨o.toArray⟩, .string ⟨c.toArray⟩] wc fun y w' => ∃ a2 c2 us2 e2 l2, y = .returned (.slice a2 l2.length c2) ∧ Hid (SU B G r v w us l b t w' (.slice a2 l2.length c2) us2 d1 e2 l2 ∧ us2.length ≤ us1.length ∧ l2.length + us2.length + pot e2 ≤ l1.length + us1.length + 1 ∧ (e2 = 0 → us2.length < us1.length ∧ l1.length < l2.length)) := by
  refine (HI wc h.mid.to hd hf).mono ?_
  rintro y w' ⟨v2, us2, e2, l2, rfl, H⟩
  obtain ⟨a2, c2, rfl⟩ := own_form H.out.1.to.own
  exact ⟨a2, c2, us2, e2, l2, rfl, Lib.hid ⟨h.step H.out.1, H.out.1.less, H.out.1.pots, H.out.2⟩⟩
theorem u_unary {f : Nat} (HI : UnaryS f) (h : SU B G r v w us l b t wc v1 us1 d1 e1 l1) (hd : d1 ≤ 31) (hd2 : e1 = 0 → d1 ≤ 30) (hf : meas e1 us1 ≤ f) : Calls Try.prog 105 #[.pointer (some ⟨r, 0, none⟩), v1] wc fun y w' => ∃ a2 c2 us2 e2 l2, y = .returned (.slice a2 l2.length c2) ∧ Hid (SU B G r v w us l b t w' (.slice a2 l2.length c2) us2 d1 e2 l2 ∧ us2.length ≤ us1.length ∧ l2.length + us2.length + pot e2 ≤ l1.length + us1.length + pot e1 ∧ (e2 = 0 → e1 = 0 ∧ us2.length < us1.length ∧ l1.length < l2.length)) := by
  refine (HI wc h.mid.to hd hd2 hf).mono ?_
  rintro y w' ⟨v2, us2, e2, l2, rfl, H⟩
  obtain ⟨a2, c2, rfl⟩ := own_form H.out.1.to.own
  exact ⟨a2, c2, us2, e2, l2, rfl, Lib.hid ⟨h.step H.out.1, H.out.1.less, H.out.1.pots, fun h0 => ⟨H.out.1.bad h0, (H.out.2 h0).1, (H.out.2 h0).2⟩⟩⟩
theorem u_open {s : List UInt8} (h : SU B G r v w us l b t wc v1 us1 d1 0 l1) (hd : d1 ≤ 30) : Calls Try.prog 89 #[.pointer (some ⟨r, 0, none⟩), .string ⟨s.toArray⟩] wc fun y w' => y = .returned (.tuple #[]) ∧ Hid (∃ us2 e2, SU B G r v w us l b t w' v1 us2 (d1 + 1) e2 l1 ∧ us2.length ≤ us1.length ∧ (e2 = 0 → us2.length + 1 = us1.length ∧ d1 < 30)) := by
  refine (open_any wc s h.mid.to.rd (by omega)).mono ?_
  rintro y w' ⟨rfl, H⟩
  obtain ⟨us2, e2, h1, h2, h3, h4⟩ := H.out
  exact ⟨rfl, Lib.hid ⟨us2, e2, h.step (SMid.reader h.mid.to h1 h2 h3 (by have := pot_le e2; rw [pot_zero]; omega) (fun _ => rfl)), h3, fun h0 => (h4 h0).2⟩⟩
theorem u_fail {c : Nat} (hc : 0 < c ∧ c ≤ 10) (h : SU B G r v w us l b t wc v1 us1 d1 e1 l1) : Calls Try.prog 31 #[.pointer (some ⟨r, 0, none⟩), .int .i64 c] wc fun y w' => y = .returned (.tuple #[]) ∧ Hid (∃ e2, 0 < e2 ∧ SU B G r v w us l b t w' v1 us1 d1 e2 l1) := by
  refine (fail_any wc c hc h.mid.to.rd).mono ?_
  rintro y w' ⟨rfl, H⟩
  obtain ⟨e2, h1, h2, h3⟩ := H.out
  exact ⟨rfl, Lib.hid ⟨e2, h1, h.step (SMid.reader h.mid.to h3 h2 (Nat.le_refl _) (by rw [pot_pos h1]; omega) (fun h0 => by omega))⟩⟩
theorem SU.deep {a : Option Addr} {n c : Nat} (d : Nat) (hd : d ≤ 10000) (h : SU B G r v w us l b t wc (.slice a n c) us1 d1 e1 l1) : SU B G r v w us l b t (wc.setCell ⟨r, 2, none⟩ (.int .i64 d)) (.slice a n c) us1 d e1 l1 := by
  have hx := h.mid.to.rd.dive d hd
  exact h.step (SMid.reader h.mid.to hx.2 hx.1 (Nat.le_refl _) (Nat.le_refl _) id)
end
set_option maxRecDepth 100000 in
set_option maxHeartbeats 4000000 in
theorem unary_bad {B G r d e : Nat} {v : Value} {us : List Tok} {l : List Ex} (w : World) (h : SIn B G w r v us d e l) (he : e ≠ 0) : Calls Try.prog 105 #[.pointer (some ⟨r, 0, none⟩), v] w (OutE B G r v us d e l w) := by
  obtain ⟨c3, hr, he10⟩ := h.rd.bad_cell
  have hb : ((e : Int) != 0) = true := by rw [bne_iff_ne]; omega
  have H := Lib.hid (SMid.refl h)
  clear h
  go_enter Try.func105, Try.ntmps105
  go_wp2
  go_ret
  exact ⟨_, _, _, _, rfl, Lib.hid ⟨H.out, fun h => absurd h he⟩⟩
set_option maxRecDepth 100000 in
set_option maxHeartbeats 4000000 in
theorem unary_num {f : Nat} {B G r d : Nat} {v : Value} {t : Tok} {us : List Tok} {l : List Ex} (w : World) (h : SIn B G w r v (t :: us) d 0 l) (_hd : d ≤ 30) (_hf : us.length ≤ f) (b1 : isB (t :: us) 0 [45] = false) (b2 : isB (t :: us) 0 [126] = false) (b3 : isB (t :: us) 0 [40] = false) (hk : t.kind = 2) : Calls Try.prog 105 #[.pointer (some ⟨r, 0, none⟩), v] w (OutE B G r v (t :: us) d 0 l w) := by
  have HNum := Lib.hid (fun (x : World) (hx : (⟨t.text.toArray⟩ : ByteArray).size ≤ 8192) => Lex.rNumber_safe ⟨t.text.toArray⟩ x hx)
  have HK := Lib.hid hk
  clear hk
  have hsz := h.sz
  have hln := h.len
  simp only [List.length_cons, pot_zero] at hsz hln
  obtain ⟨t', us', n, cap, p, a, hus, hu, g1, g2, g3, c0, c1, c2, c3, c4, fr, g4, hp, hn, hm, h8, hr, hG, k0, k1, k2⟩ := h.rd.head
  injection hus with hus1 hus2
  subst hus1 hus2
  have c3 : w.cell? ⟨r, 3, none⟩ = some (.int .i64 0) := c3
  simp only [maxLen] at hm
  have HEn := Lib.hid hu
  have HH := Lib.hid h
  have HU := Lib.hid (u_start (t := t) h)
  clear h hu
  go_enter Try.func105, Try.ntmps105
  go_wp2
  go_region
  unfold tokV at HU
  generalize (w.alloc (.cells #[.int .i64 t.kind, .string ⟨t.text.toArray⟩, .int .i64 t.place] 87)).drew = W at *
  generalize w.heap.size = bt at *
  clear c0 c1 c2 c3 c4 fr k0 k1 k2 hr hG hn hm h8 hp
  obtain ⟨z0, z1, z2⟩ := HU.out.cells
  have hk := HK.out
  have hk2 : ((t.kind : Int) == 2) = true := by rw [beq_iff_eq]; omega
  have HE2 := Lib.hid (HEn.out (by omega))
  clear hk HK
  have hts : (⟨t.text.toArray⟩ : ByteArray).size ≤ 8192 := by
    show t.text.toArray.size ≤ _
    simpa using g3
  go_upto_region 15 with (first | (go_at_call 56; refine (u_is HU.out (x := false) (by assumption)).mono ?_; clear HU z0 z1 z2; rintro y w1 ⟨rfl, HU⟩; obtain ⟨z0, z1, z2⟩ := HU.out.cells))
  obtain ⟨t', us', n, cap, p, a, hus, hu, -, -, -, c0, c1, c2, c3, c4, fr, g4, hp, hn, hm, h8, hr, hG, k0, k1, k2⟩ := HU.out.mid.to.rd.head
  clear hus hu
  simp only [maxLen] at hm
  have HN := Lib.hid (HU.out.next HE2.out c1)
  go_upto_region 16 with fail
  generalize w1.setCell ⟨r, 1, none⟩ (.int .i64 ((p : Int) + 1)) = w2 at *
  clear HU z0 z1 z2 c0 c1 c2 c3 c4 fr k0 k1 k2 hr hG hn hm h8 hp
  have HU := HN
  clear HN
  obtain ⟨z0, z1, z2⟩ := HU.out.cells
  go_upto_region 17 with (go_at_call 69; refine (HNum.out _ hts).mono ?_; rintro y w' ⟨⟨vn, ty, bb, rfl, hv1, hv2, hv3⟩, rfl⟩)
  go_wp2_with (at_builtin; refine wpList_push rfl _ _ rfl (⟨1, vn, ty, [], -1, -1, t.place⟩) _ _ (HU.out.mid.to).own (HU.out.mid.to).base (by omega) rfl rfl (by simp [exCell]; try omega) ?_; intro v5 w5 H5)
  go_ret
  exact ⟨_, _, _, _, rfl, Lib.hid ⟨HU.out.mid.push H5.out (by have hp0 := pot_zero; simp; omega) (by have hp0 := pot_zero; simp; omega) (by refine ⟨?_, ?_, ?_, ?_, ?_, ?_, ?_, ?_⟩ <;> simp <;> omega) (fun h0 => by first | (skip; refine ⟨?_, ?_⟩ <;> simp <;> omega) | (refine ⟨?_, ?_⟩ <;> simp)) (by show (-1 : Int) < _; omega) (by show (-1 : Int) < _; omega), fun _ => by simp⟩⟩
set_option maxRecDepth 100000 in
set_option maxHeartbeats 4000000 in
theorem unary_var {f : Nat} {B G r d : Nat} {v : Value} {t : Tok} {us : List Tok} {l : List Ex} (w : World) (h : SIn B G w r v (t :: us) d 0 l) (_hd : d ≤ 30) (_hf : us.length ≤ f) (b1 : isB (t :: us) 0 [45] = false) (b2 : isB (t :: us) 0 [126] = false) (b3 : isB (t :: us) 0 [40] = false) (hk : t.kind = 1) (b4 : isB us 0 [91] = false) : Calls Try.prog 105 #[.pointer (some ⟨r, 0, none⟩), v] w (OutE B G r v (t :: us) d 0 l w) := by
  have HK := Lib.hid hk
  clear hk
  have hsz := h.sz
  have hln := h.len
  simp only [List.length_cons, pot_zero] at hsz hln
  obtain ⟨t', us', n, cap, p, a, hus, hu, g1, g2, g3, c0, c1, c2, c3, c4, fr, g4, hp, hn, hm, h8, hr, hG, k0, k1, k2⟩ := h.rd.head
  injection hus with hus1 hus2
  subst hus1 hus2
  have c3 : w.cell? ⟨r, 3, none⟩ = some (.int .i64 0) := c3
  simp only [maxLen] at hm
  have HEn := Lib.hid hu
  have HH := Lib.hid h
  have HU := Lib.hid (u_start (t := t) h)
  clear h hu
  go_enter Try.func105, Try.ntmps105
  go_wp2
  go_region
  unfold tokV at HU
  generalize (w.alloc (.cells #[.int .i64 t.kind, .string ⟨t.text.toArray⟩, .int .i64 t.place] 87)).drew = W at *
  generalize w.heap.size = bt at *
  clear c0 c1 c2 c3 c4 fr k0 k1 k2 hr hG hn hm h8 hp
  obtain ⟨z0, z1, z2⟩ := HU.out.cells
  have hk := HK.out
  have hk1 : ((t.kind : Int) == 1) = true := by rw [beq_iff_eq]; omega
  have hk2 : ((t.kind : Int) == 2) = false := by rw [beq_eq_false_iff_ne]; omega
  have HE2 := Lib.hid (HEn.out (by omega))
  clear hk HK
  go_upto_region 19 with (first | (go_at_call 56; refine (u_is HU.out (x := false) (by assumption)).mono ?_; clear HU z0 z1 z2; rintro y w1 ⟨rfl, HU⟩; obtain ⟨z0, z1, z2⟩ := HU.out.cells))
  obtain ⟨t', us', n, cap, p, a, hus, hu, -, -, -, c0, c1, c2, c3, c4, fr, g4, hp, hn, hm, h8, hr, hG, k0, k1, k2⟩ := HU.out.mid.to.rd.head
  clear hus hu
  simp only [maxLen] at hm
  have HN := Lib.hid (HU.out.next HE2.out c1)
  go_upto_region 20 with fail
  generalize w1.setCell ⟨r, 1, none⟩ (.int .i64 ((p : Int) + 1)) = w2 at *
  clear HU z0 z1 z2 c0 c1 c2 c3 c4 fr k0 k1 k2 hr hG hn hm h8 hp
  have HU := HN
  clear HN
  obtain ⟨z0, z1, z2⟩ := HU.out.cells
  go_upto_region 21 with (go_at_call 56; refine (u_is HU.out (x := false) (by assumption)).mono ?_; clear HU z0 z1 z2; rintro y w1 ⟨rfl, HU⟩; obtain ⟨z0, z1, z2⟩ := HU.out.cells)
  go_wp2_with (at_builtin; refine wpList_push rfl _ _ rfl (⟨2, 0, 0, t.text, -1, -1, t.place⟩) _ _ (HU.out.mid.to).own (HU.out.mid.to).base (by omega) rfl rfl (by simp [exCell]; try omega) ?_; intro v5 w5 H5)
  go_ret
  exact ⟨_, _, _, _, rfl, Lib.hid ⟨HU.out.mid.push H5.out (by have hp0 := pot_zero; simp; omega) (by have hp0 := pot_zero; simp; omega) (by refine ⟨?_, ?_, ?_, ?_, ?_, ?_, ?_, ?_⟩ <;> simp <;> omega) (fun h0 => by first | (skip; refine ⟨?_, ?_⟩ <;> simp <;> omega) | (refine ⟨?_, ?_⟩ <;> simp)) (by show (-1 : Int) < _; omega) (by show (-1 : Int) < _; omega), fun _ => by simp⟩⟩
set_option maxRecDepth 100000 in
set_option maxHeartbeats 4000000 in
theorem unary_elem {f : Nat} (HI : InnerS f) {B G r d : Nat} {v : Value} {t : Tok} {us : List Tok} {l : List Ex} (w : World) (h : SIn B G w r v (t :: us) d 0 l) (hd : d ≤ 30) (hf : us.length ≤ f) (b1 : isB (t :: us) 0 [45] = false) (b2 : isB (t :: us) 0 [126] = false) (b3 : isB (t :: us) 0 [40] = false) (hk : t.kind = 1) (b4 : isB us 0 [91] = true) : Calls Try.prog 105 #[.pointer (some ⟨r, 0, none⟩), v] w (OutE B G r v (t :: us) d 0 l w) := by
  have HK := Lib.hid hk
  clear hk
  have hsz := h.sz
  have hln := h.len
  simp only [List.length_cons, pot_zero] at hsz hln
  obtain ⟨t', us', n, cap, p, a, hus, hu, g1, g2, g3, c0, c1, c2, c3, c4, fr, g4, hp, hn, hm, h8, hr, hG, k0, k1, k2⟩ := h.rd.head
  injection hus with hus1 hus2
  subst hus1 hus2
  have c3 : w.cell? ⟨r, 3, none⟩ = some (.int .i64 0) := c3
  simp only [maxLen] at hm
  have HEn := Lib.hid hu
  have HH := Lib.hid h
  have HU := Lib.hid (u_start (t := t) h)
  clear h hu
  go_enter Try.func105, Try.ntmps105
  go_wp2
  go_region
  unfold tokV at HU
  generalize (w.alloc (.cells #[.int .i64 t.kind, .string ⟨t.text.toArray⟩, .int .i64 t.place] 87)).drew = W at *
  generalize w.heap.size = bt at *
  clear c0 c1 c2 c3 c4 fr k0 k1 k2 hr hG hn hm h8 hp
  obtain ⟨z0, z1, z2⟩ := HU.out.cells
  have hk := HK.out
  have hk1 : ((t.kind : Int) == 1) = true := by rw [beq_iff_eq]; omega
  have hk2 : ((t.kind : Int) == 2) = false := by rw [beq_eq_false_iff_ne]; omega
  have HE2 := Lib.hid (HEn.out (by omega))
  clear hk HK
  go_upto_region 19 with (first | (go_at_call 56; refine (u_is HU.out (x := false) (by assumption)).mono ?_; clear HU z0 z1 z2; rintro y w1 ⟨rfl, HU⟩; obtain ⟨z0, z1, z2⟩ := HU.out.cells))
  obtain ⟨t', us', n, cap, p, a, hus, hu, -, -, -, c0, c1, c2, c3, c4, fr, g4, hp, hn, hm, h8, hr, hG, k0, k1, k2⟩ := HU.out.mid.to.rd.head
  clear hus hu
  simp only [maxLen] at hm
  have HN := Lib.hid (HU.out.next HE2.out c1)
  go_upto_region 20 with fail
  generalize w1.setCell ⟨r, 1, none⟩ (.int .i64 ((p : Int) + 1)) = w2 at *
  clear HU z0 z1 z2 c0 c1 c2 c3 c4 fr k0 k1 k2 hr hG hn hm h8 hp
  have HU := HN
  clear HN
  obtain ⟨z0, z1, z2⟩ := HU.out.cells
  go_upto_region 22 with (go_at_call 56; refine (u_is HU.out (x := true) (by assumption)).mono ?_; clear HU z0 z1 z2; rintro y w1 ⟨rfl, HU⟩; obtain ⟨z0, z1, z2⟩ := HU.out.cells)
  go_upto_region 23 with (go_at_call 108; refine (u_inner HI HU.out hd (by omega)).mono ?_; clear HU z0 z1 z2; rintro y w3 ⟨a2, cc2, us2, e2, l2, rfl, H3⟩; obtain ⟨h3, q1, q2, q3⟩ := H3.out; have HU := Lib.hid h3; have Q3 := Lib.hid q3; have hl2 := h3.mid.to.len; clear h3 q3 H3; obtain ⟨z0, z1, z2⟩ := HU.out.cells)
  go_wp2_with (at_builtin; refine wpList_push rfl _ _ rfl (⟨3, 0, 0, t.text, (l2.length : Int) - 1, -1, t.place⟩) _ _ (HU.out.mid.to).own (HU.out.mid.to).base (by omega) rfl rfl (by simp [exCell]; try omega) ?_; intro v5 w5 H5)
  go_ret
  exact ⟨_, _, _, _, rfl, Lib.hid ⟨HU.out.mid.push H5.out (by have hp0 := pot_zero; simp; omega) (by have hp0 := pot_zero; simp; omega) (by refine ⟨?_, ?_, ?_, ?_, ?_, ?_, ?_, ?_⟩ <;> simp <;> omega) (fun h0 => by first | (have := Q3.out h0; refine ⟨?_, ?_⟩ <;> simp <;> omega) | (refine ⟨?_, ?_⟩ <;> simp)) (by show (l2.length : Int) - 1 < _; omega) (by show (-1 : Int) < _; omega), fun h0 => by have := Q3.out h0; simp; omega⟩⟩
set_option maxRecDepth 100000 in
set_option maxHeartbeats 4000000 in
theorem unary_old {f : Nat} (HI : InnerS f) {B G r d : Nat} {v : Value} {t : Tok} {us : List Tok} {l : List Ex} (w : World) (h : SIn B G w r v (t :: us) d 0 l) (hd : d ≤ 30) (hf : us.length ≤ f) (b1 : isB (t :: us) 0 [45] = false) (b2 : isB (t :: us) 0 [126] = false) (b3 : isB (t :: us) 0 [40] = false) (hk : t.kind = 3 ∨ t.kind = 4) (b4 : isB (t :: us) 0 [111, 108, 100] = true) : Calls Try.prog 105 #[.pointer (some ⟨r, 0, none⟩), v] w (OutE B G r v (t :: us) d 0 l w) := by
  have hsz := h.sz
  have hln := h.len
  simp only [List.length_cons, pot_zero] at hsz hln
  obtain ⟨t', us', n, cap, p, a, hus, hu, g1, g2, g3, c0, c1, c2, c3, c4, fr, g4, hp, hn, hm, h8, hr, hG, k0, k1, k2⟩ := h.rd.head
  injection hus with hus1 hus2
  subst hus1 hus2
  have c3 : w.cell? ⟨r, 3, none⟩ = some (.int .i64 0) := c3
  simp only [maxLen] at hm
  have HEn := Lib.hid hu
  have HH := Lib.hid h
  have HU := Lib.hid (u_start (t := t) h)
  clear h hu
  go_enter Try.func105, Try.ntmps105
  go_wp2
  go_region
  unfold tokV at HU
  generalize (w.alloc (.cells #[.int .i64 t.kind, .string ⟨t.text.toArray⟩, .int .i64 t.place] 87)).drew = W at *
  generalize w.heap.size = bt at *
  clear c0 c1 c2 c3 c4 fr k0 k1 k2 hr hG hn hm h8 hp
  obtain ⟨z0, z1, z2⟩ := HU.out.cells
  have hk1 : ((t.kind : Int) == 1) = false := by rw [beq_eq_false_iff_ne]; omega
  have hk2 : ((t.kind : Int) == 2) = false := by rw [beq_eq_false_iff_ne]; omega
  go_upto_region 24 with (first | (go_at_call 56; refine (u_is HU.out (x := false) (by assumption)).mono ?_; clear HU z0 z1 z2; rintro y w1 ⟨rfl, HU⟩; obtain ⟨z0, z1, z2⟩ := HU.out.cells))
  go_upto_region 25 with (go_at_call 71; refine (u_take_yes HU.out (by assumption)).mono ?_; clear HU z0 z1 z2; rintro y w1 ⟨rfl, HU⟩; obtain ⟨us3, hl3, hu3⟩ := HU.out; clear HU; have HU := Lib.hid hu3; clear hu3; obtain ⟨z0, z1, z2⟩ := HU.out.cells; simp only [List.length_cons] at hl3)
  go_upto_region 26 with (go_at_call 108; refine (u_inner HI HU.out hd (by omega)).mono ?_; clear HU z0 z1 z2; rintro y w3 ⟨a2, cc2, us2, e2, l2, rfl, H3⟩; obtain ⟨h3, q1, q2, q3⟩ := H3.out; have HU := Lib.hid h3; have Q3 := Lib.hid q3; have hl2 := h3.mid.to.len; clear h3 q3 H3; obtain ⟨z0, z1, z2⟩ := HU.out.cells)
  go_wp2_with (at_builtin; refine wpList_push rfl _ _ rfl (⟨4, 0, 0, [], (l2.length : Int) - 1, -1, t.place⟩) _ _ (HU.out.mid.to).own (HU.out.mid.to).base (by omega) rfl rfl (by simp [exCell]; try omega) ?_; intro v5 w5 H5)
  go_ret
  exact ⟨_, _, _, _, rfl, Lib.hid ⟨HU.out.mid.push H5.out (by have hp0 := pot_zero; simp; omega) (by have hp0 := pot_zero; simp; omega) (by refine ⟨?_, ?_, ?_, ?_, ?_, ?_, ?_, ?_⟩ <;> simp <;> omega) (fun h0 => by first | (have := Q3.out h0; refine ⟨?_, ?_⟩ <;> simp <;> omega) | (refine ⟨?_, ?_⟩ <;> simp)) (by show (l2.length : Int) - 1 < _; omega) (by show (-1 : Int) < _; omega), fun h0 => by have := Q3.out h0; simp; omega⟩⟩
set_option maxRecDepth 100000 in
set_option maxHeartbeats 4000000 in
theorem unary_result {f : Nat} {B G r d : Nat} {v : Value} {t : Tok} {us : List Tok} {l : List Ex} (w : World) (h : SIn B G w r v (t :: us) d 0 l) (_hd : d ≤ 30) (_hf : us.length ≤ f) (b1 : isB (t :: us) 0 [45] = false) (b2 : isB (t :: us) 0 [126] = false) (b3 : isB (t :: us) 0 [40] = false) (hk : t.kind = 3 ∨ t.kind = 4) (b4 : isB (t :: us) 0 [111, 108, 100] = false) (b5 : isB (t :: us) 0 [114, 101, 115, 117, 108, 116] = true) : Calls Try.prog 105 #[.pointer (some ⟨r, 0, none⟩), v] w (OutE B G r v (t :: us) d 0 l w) := by
  have hsz := h.sz
  have hln := h.len
  simp only [List.length_cons, pot_zero] at hsz hln
  obtain ⟨t', us', n, cap, p, a, hus, hu, g1, g2, g3, c0, c1, c2, c3, c4, fr, g4, hp, hn, hm, h8, hr, hG, k0, k1, k2⟩ := h.rd.head
  injection hus with hus1 hus2
  subst hus1 hus2
  have c3 : w.cell? ⟨r, 3, none⟩ = some (.int .i64 0) := c3
  simp only [maxLen] at hm
  have HEn := Lib.hid hu
  have HH := Lib.hid h
  have HU := Lib.hid (u_start (t := t) h)
  clear h hu
  go_enter Try.func105, Try.ntmps105
  go_wp2
  go_region
  unfold tokV at HU
  generalize (w.alloc (.cells #[.int .i64 t.kind, .string ⟨t.text.toArray⟩, .int .i64 t.place] 87)).drew = W at *
  generalize w.heap.size = bt at *
  clear c0 c1 c2 c3 c4 fr k0 k1 k2 hr hG hn hm h8 hp
  obtain ⟨z0, z1, z2⟩ := HU.out.cells
  have hk1 : ((t.kind : Int) == 1) = false := by rw [beq_eq_false_iff_ne]; omega
  have hk2 : ((t.kind : Int) == 2) = false := by rw [beq_eq_false_iff_ne]; omega
  go_upto_region 27 with (first | (go_at_call 56; refine (u_is HU.out (x := false) (by assumption)).mono ?_; clear HU z0 z1 z2; rintro y w1 ⟨rfl, HU⟩; obtain ⟨z0, z1, z2⟩ := HU.out.cells) | (go_at_call 71; refine (u_take_no HU.out (by assumption)).mono ?_; clear HU z0 z1 z2; rintro y w1 ⟨rfl, HU⟩; obtain ⟨z0, z1, z2⟩ := HU.out.cells))
  go_upto_region 28 with (go_at_call 71; refine (u_take_yes HU.out (by assumption)).mono ?_; clear HU z0 z1 z2; rintro y w1 ⟨rfl, HU⟩; obtain ⟨us3, hl3, hu3⟩ := HU.out; clear HU; have HU := Lib.hid hu3; clear hu3; obtain ⟨z0, z1, z2⟩ := HU.out.cells; simp only [List.length_cons] at hl3)
  go_wp2_with (at_builtin; refine wpList_push rfl _ _ rfl (⟨5, 0, 0, [], -1, -1, t.place⟩) _ _ (HU.out.mid.to).own (HU.out.mid.to).base (by omega) rfl rfl (by simp [exCell]; try omega) ?_; intro v5 w5 H5)
  go_ret
  exact ⟨_, _, _, _, rfl, Lib.hid ⟨HU.out.mid.push H5.out (by have hp0 := pot_zero; simp; omega) (by have hp0 := pot_zero; simp; omega) (by refine ⟨?_, ?_, ?_, ?_, ?_, ?_, ?_, ?_⟩ <;> simp <;> omega) (fun h0 => by first | (skip; refine ⟨?_, ?_⟩ <;> simp <;> omega) | (refine ⟨?_, ?_⟩ <;> simp)) (by show (-1 : Int) < _; omega) (by show (-1 : Int) < _; omega), fun _ => by simp; omega⟩⟩
set_option maxRecDepth 100000 in
set_option maxHeartbeats 4000000 in
theorem unary_paren {f : Nat} (HI : InnerS f) {B G r d : Nat} {v : Value} {t : Tok} {us : List Tok} {l : List Ex} (w : World) (h : SIn B G w r v (t :: us) d 0 l) (hd : d ≤ 30) (hf : us.length + 1 ≤ f) (b1 : isB (t :: us) 0 [45] = false) (b2 : isB (t :: us) 0 [126] = false) (b3 : isB (t :: us) 0 [40] = true) : Calls Try.prog 105 #[.pointer (some ⟨r, 0, none⟩), v] w (OutE B G r v (t :: us) d 0 l w) := by
  have hsz := h.sz
  have hln := h.len
  simp only [List.length_cons, pot_zero] at hsz hln
  obtain ⟨t', us', n, cap, p, a, hus, hu, g1, g2, g3, c0, c1, c2, c3, c4, fr, g4, hp, hn, hm, h8, hr, hG, k0, k1, k2⟩ := h.rd.head
  injection hus with hus1 hus2
  subst hus1 hus2
  have c3 : w.cell? ⟨r, 3, none⟩ = some (.int .i64 0) := c3
  simp only [maxLen] at hm
  have HEn := Lib.hid hu
  have HH := Lib.hid h
  have HU := Lib.hid (u_start (t := t) h)
  clear h hu
  go_enter Try.func105, Try.ntmps105
  go_wp2
  go_region
  unfold tokV at HU
  generalize (w.alloc (.cells #[.int .i64 t.kind, .string ⟨t.text.toArray⟩, .int .i64 t.place] 87)).drew = W at *
  generalize w.heap.size = bt at *
  clear c0 c1 c2 c3 c4 fr k0 k1 k2 hr hG hn hm h8 hp
  obtain ⟨z0, z1, z2⟩ := HU.out.cells
  go_upto_region 12 with (first | (go_at_call 56; refine (u_is HU.out (x := false) (by assumption)).mono ?_; clear HU z0 z1 z2; rintro y w1 ⟨rfl, HU⟩; obtain ⟨z0, z1, z2⟩ := HU.out.cells))
  go_upto_region 13 with (go_at_call 56; refine (u_is HU.out (x := true) (by assumption)).mono ?_; clear HU z0 z1 z2; rintro y w1 ⟨rfl, HU⟩; obtain ⟨z0, z1, z2⟩ := HU.out.cells)
  go_wp2_with (go_at_call 108; refine (HI _ HU.out.mid.to hd (by simp; omega)).mono ?_; clear z0 z1 z2; rintro y w3 ⟨v2, us2, e2, l2, rfl, H3⟩)
  go_ret
  exact ⟨_, _, _, _, rfl, Lib.hid ⟨HU.out.mid.trans H3.out.1, H3.out.2⟩⟩
set_option maxRecDepth 100000 in
set_option maxHeartbeats 4000000 in
theorem unary_none {f : Nat} {B G r d : Nat} {v : Value} {t : Tok} {us : List Tok} {l : List Ex} (w : World) (h : SIn B G w r v (t :: us) d 0 l) (_hd : d ≤ 30) (_hf : us.length ≤ f) (b1 : isB (t :: us) 0 [45] = false) (b2 : isB (t :: us) 0 [126] = false) (b3 : isB (t :: us) 0 [40] = false) (hk1 : t.kind ≠ 1) (hk2 : t.kind ≠ 2) (b4 : isB (t :: us) 0 [111, 108, 100] = false) (b5 : isB (t :: us) 0 [114, 101, 115, 117, 108, 116] = false) (hr0 : t.kind ≠ 3 ∨ readT t.text = 0) : Calls Try.prog 105 #[.pointer (some ⟨r, 0, none⟩), v] w (OutE B G r v (t :: us) d 0 l w) := by
  have HR := Lib.hid (fun w => Lex.rread_v ⟨t.text.toArray⟩ w (readT t.text) (read_readT _))
  have hsz := h.sz
  have hln := h.len
  simp only [List.length_cons, pot_zero] at hsz hln
  obtain ⟨t', us', n, cap, p, a, hus, hu, g1, g2, g3, c0, c1, c2, c3, c4, fr, g4, hp, hn, hm, h8, hr, hG, k0, k1, k2⟩ := h.rd.head
  injection hus with hus1 hus2
  subst hus1 hus2
  have c3 : w.cell? ⟨r, 3, none⟩ = some (.int .i64 0) := c3
  simp only [maxLen] at hm
  have HEn := Lib.hid hu
  have HH := Lib.hid h
  have HU := Lib.hid (u_start (t := t) h)
  clear h hu
  go_enter Try.func105, Try.ntmps105
  go_wp2
  go_region
  unfold tokV at HU
  generalize (w.alloc (.cells #[.int .i64 t.kind, .string ⟨t.text.toArray⟩, .int .i64 t.place] 87)).drew = W at *
  generalize w.heap.size = bt at *
  clear c0 c1 c2 c3 c4 fr k0 k1 k2 hr hG hn hm h8 hp
  obtain ⟨z0, z1, z2⟩ := HU.out.cells
  have hk1 : ((t.kind : Int) == 1) = false := by rw [beq_eq_false_iff_ne]; omega
  have hk2 : ((t.kind : Int) == 2) = false := by rw [beq_eq_false_iff_ne]; omega
  rcases (show t.kind ≠ 3 ∨ (t.kind = 3 ∧ readT t.text = 0) by omega) with hk3 | ⟨hk3, hr1⟩
  case' inl => have hk3 : ((t.kind : Int) == 3) = false := (by rw [beq_eq_false_iff_ne]; omega)
  case' inr => have hk3 : ((t.kind : Int) == 3) = true := (by rw [beq_iff_eq]; omega); rw [hr1] at HR
  all_goals
    clear hr0
    go_upto_region 29 with (first | (go_at_call 56; refine (u_is HU.out (x := false) (by assumption)).mono ?_; clear HU z0 z1 z2; rintro y w1 ⟨rfl, HU⟩; obtain ⟨z0, z1, z2⟩ := HU.out.cells) | (go_at_call 71; refine (u_take_no HU.out (by assumption)).mono ?_; clear HU z0 z1 z2; rintro y w1 ⟨rfl, HU⟩; obtain ⟨z0, z1, z2⟩ := HU.out.cells))
    go_upto_region 33 with (go_at_call 68; refine (HR.out _).mono ?_; rintro y w6 ⟨rfl, k6⟩; have HU6 := Lib.hid (HU.out.kept k6); clear HU z0 z1 z2 k6; have HU := HU6; clear HU6; obtain ⟨z0, z1, z2⟩ := HU.out.cells)
    go_wp2_with (go_at_call 31; refine (u_fail (c := 5) (by omega) HU.out).mono ?_; clear HU z0 z1 z2; rintro y w3 ⟨rfl, H3⟩)
    go_ret
    obtain ⟨e2, h1, h2⟩ := H3.out
    exact ⟨_, _, _, _, rfl, Lib.hid ⟨h2.mid, fun h => by omega⟩⟩
set_option maxRecDepth 100000 in
set_option maxHeartbeats 4000000 in
theorem unary_minus {f : Nat} (HU1 : UnaryS f) {B G r d : Nat} {v : Value} {t : Tok} {us : List Tok} {l : List Ex} (w : World) (h : SIn B G w r v (t :: us) d 0 l) (hd : d ≤ 30) (hf : us.length ≤ f) (b1 : isB (t :: us) 0 [45] = true) : Calls Try.prog 105 #[.pointer (some ⟨r, 0, none⟩), v] w (OutE B G r v (t :: us) d 0 l w) := by
  have ht : t.text = [45] := by
    obtain ⟨-, t1, us1, e1, -, -, e2⟩ := isB_yes h.rd.ends b1
    injection e1 with e1 _
    rw [e1]; exact e2
  have ht2 : (t.text == [126]) = false := by rw [ht]; decide
  clear ht
  have hsz := h.sz
  have hln := h.len
  simp only [List.length_cons, pot_zero] at hsz hln
  obtain ⟨t', us', n, cap, p, a, hus, hu, g1, g2, g3, c0, c1, c2, c3, c4, fr, g4, hp, hn, hm, h8, hr, hG, k0, k1, k2⟩ := h.rd.head
  injection hus with hus1 hus2
  subst hus1 hus2
  have c3 : w.cell? ⟨r, 3, none⟩ = some (.int .i64 0) := c3
  simp only [maxLen] at hm
  have HEn := Lib.hid hu
  have HH := Lib.hid h
  have HU := Lib.hid (u_start (t := t) h)
  clear h hu
  go_enter Try.func105, Try.ntmps105
  go_wp2
  go_region
  unfold tokV at HU
  generalize (w.alloc (.cells #[.int .i64 t.kind, .string ⟨t.text.toArray⟩, .int .i64 t.place] 87)).drew = W at *
  generalize w.heap.size = bt at *
  clear c0 c1 c2 c3 c4 fr k0 k1 k2 hr hG hn hm h8 hp
  obtain ⟨z0, z1, z2⟩ := HU.out.cells
  go_upto_region 5 with (first | (go_at_call 56; refine (u_is HU.out (x := true) (by assumption)).mono ?_; clear HU z0 z1 z2; rintro y w1 ⟨rfl, HU⟩; obtain ⟨z0, z1, z2⟩ := HU.out.cells) | (go_at_call 56; refine (u_is HU.out (x := false) (by assumption)).mono ?_; clear HU z0 z1 z2; rintro y w1 ⟨rfl, HU⟩; obtain ⟨z0, z1, z2⟩ := HU.out.cells))
  go_upto_region 9 with (go_at_call 89; refine (u_open HU.out hd).mono ?_; clear HU z0 z1 z2; rintro y w2 ⟨rfl, HO⟩; obtain ⟨us2, e2, h2, p1, p2⟩ := HO.out; clear HO; have HU := Lib.hid h2; have P2 := Lib.hid p2; simp only [List.length_cons] at p1; clear h2 p2; obtain ⟨z0, z1, z2⟩ := HU.out.cells)
  have hmeas : meas e2 us2 ≤ f := by
    unfold meas
    split
    · rename_i h0; have := P2.out h0; simp at this; omega
    · omega
  have HX := Lib.hid (u_unary HU1 HU.out (by omega) (fun h0 => by have := P2.out h0; omega) hmeas)
  have hpt : us2.length + pot e2 ≤ us.length + 1 := by
    rcases (show e2 = 0 ∨ 0 < e2 by omega) with h0 | h0
    · have := P2.out h0; rw [h0, pot_zero]; simp at this; omega
    · rw [pot_pos h0]; omega
  clear hmeas
  go_upto_region 10 with (go_at_call 105; refine HX.out.mono ?_; clear HU z0 z1 z2; rintro y w3 ⟨a3, cc3, us3, e3, l3, rfl, H3⟩; obtain ⟨h3, q1, q2, q3⟩ := H3.out; have HU := Lib.hid h3; have Q3 := Lib.hid q3; have hl3 := h3.mid.to.len; obtain ⟨dd, dg, dl, dm⟩ := h3.mid.to.rd.deep_cell; clear h3 q3 H3; obtain ⟨z0, z1, z2⟩ := HU.out.cells)
  have HD := Lib.hid (HU.out.deep d (by omega))
  go_upto_region 11 with fail
  generalize w3.setCell ⟨r, 2, none⟩ (.int .i64 (d : Int)) = w4 at *
  clear HU z0 z1 z2 dd dg dl dm
  have HU := HD
  clear HD
  obtain ⟨z0, z1, z2⟩ := HU.out.cells
  go_wp2_with (at_builtin; refine wpList_push rfl _ _ rfl (⟨6, 0, 0, [], (l3.length : Int) - 1, -1, t.place⟩) _ _ (HU.out.mid.to).own (HU.out.mid.to).base (by omega) rfl rfl (by simp [exCell]; try omega) ?_; intro v5 w5 H5)
  go_ret
  exact ⟨_, _, _, _, rfl, Lib.hid ⟨HU.out.mid.push H5.out (by have hp0 := pot_zero; simp; omega) (by have hp0 := pot_zero; simp; omega) (by refine ⟨?_, ?_, ?_, ?_, ?_, ?_, ?_, ?_⟩ <;> simp <;> omega) (fun h0 => by first | (have := (Q3.out h0).2; refine ⟨?_, ?_⟩ <;> simp <;> omega) | (refine ⟨?_, ?_⟩ <;> simp)) (by show (l3.length : Int) - 1 < _; omega) (by show (-1 : Int) < _; omega), fun h0 => by have := Q3.out h0; have := P2.out this.1; simp; simp at this; omega⟩⟩
set_option maxRecDepth 100000 in
set_option maxHeartbeats 4000000 in
theorem unary_com {f : Nat} (HU1 : UnaryS f) {B G r d : Nat} {v : Value} {t : Tok} {us : List Tok} {l : List Ex} (w : World) (h : SIn B G w r v (t :: us) d 0 l) (hd : d ≤ 30) (hf : us.length ≤ f) (b1 : isB (t :: us) 0 [45] = false) (b2 : isB (t :: us) 0 [126] = true) : Calls Try.prog 105 #[.pointer (some ⟨r, 0, none⟩), v] w (OutE B G r v (t :: us) d 0 l w) := by
  have ht : t.text = [126] := by
    obtain ⟨-, t1, us1, e1, -, -, e2⟩ := isB_yes h.rd.ends b2
    injection e1 with e1 _
    rw [e1]; exact e2
  have ht2 : (t.text == [126]) = true := by rw [ht]; decide
  clear ht
  have hsz := h.sz
  have hln := h.len
  simp only [List.length_cons, pot_zero] at hsz hln
  obtain ⟨t', us', n, cap, p, a, hus, hu, g1, g2, g3, c0, c1, c2, c3, c4, fr, g4, hp, hn, hm, h8, hr, hG, k0, k1, k2⟩ := h.rd.head
  injection hus with hus1 hus2
  subst hus1 hus2
  have c3 : w.cell? ⟨r, 3, none⟩ = some (.int .i64 0) := c3
  simp only [maxLen] at hm
  have HEn := Lib.hid hu
  have HH := Lib.hid h
  have HU := Lib.hid (u_start (t := t) h)
  clear h hu
  go_enter Try.func105, Try.ntmps105
  go_wp2
  go_region
  unfold tokV at HU
  generalize (w.alloc (.cells #[.int .i64 t.kind, .string ⟨t.text.toArray⟩, .int .i64 t.place] 87)).drew = W at *
  generalize w.heap.size = bt at *
  clear c0 c1 c2 c3 c4 fr k0 k1 k2 hr hG hn hm h8 hp
  obtain ⟨z0, z1, z2⟩ := HU.out.cells
  go_upto_region 5 with (first | (go_at_call 56; refine (u_is HU.out (x := true) (by assumption)).mono ?_; clear HU z0 z1 z2; rintro y w1 ⟨rfl, HU⟩; obtain ⟨z0, z1, z2⟩ := HU.out.cells) | (go_at_call 56; refine (u_is HU.out (x := false) (by assumption)).mono ?_; clear HU z0 z1 z2; rintro y w1 ⟨rfl, HU⟩; obtain ⟨z0, z1, z2⟩ := HU.out.cells))
  go_upto_region 9 with (go_at_call 89; refine (u_open HU.out hd).mono ?_; clear HU z0 z1 z2; rintro y w2 ⟨rfl, HO⟩; obtain ⟨us2, e2, h2, p1, p2⟩ := HO.out; clear HO; have HU := Lib.hid h2; have P2 := Lib.hid p2; simp only [List.length_cons] at p1; clear h2 p2; obtain ⟨z0, z1, z2⟩ := HU.out.cells)
  have hmeas : meas e2 us2 ≤ f := by
    unfold meas
    split
    · rename_i h0; have := P2.out h0; simp at this; omega
    · omega
  have HX := Lib.hid (u_unary HU1 HU.out (by omega) (fun h0 => by have := P2.out h0; omega) hmeas)
  have hpt : us2.length + pot e2 ≤ us.length + 1 := by
    rcases (show e2 = 0 ∨ 0 < e2 by omega) with h0 | h0
    · have := P2.out h0; rw [h0, pot_zero]; simp at this; omega
    · rw [pot_pos h0]; omega
  clear hmeas
  go_upto_region 10 with (go_at_call 105; refine HX.out.mono ?_; clear HU z0 z1 z2; rintro y w3 ⟨a3, cc3, us3, e3, l3, rfl, H3⟩; obtain ⟨h3, q1, q2, q3⟩ := H3.out; have HU := Lib.hid h3; have Q3 := Lib.hid q3; have hl3 := h3.mid.to.len; obtain ⟨dd, dg, dl, dm⟩ := h3.mid.to.rd.deep_cell; clear h3 q3 H3; obtain ⟨z0, z1, z2⟩ := HU.out.cells)
  have HD := Lib.hid (HU.out.deep d (by omega))
  go_upto_region 11 with fail
  generalize w3.setCell ⟨r, 2, none⟩ (.int .i64 (d : Int)) = w4 at *
  clear HU z0 z1 z2 dd dg dl dm
  have HU := HD
  clear HD
  obtain ⟨z0, z1, z2⟩ := HU.out.cells
  go_wp2_with (at_builtin; refine wpList_push rfl _ _ rfl (⟨7, 0, 0, [], (l3.length : Int) - 1, -1, t.place⟩) _ _ (HU.out.mid.to).own (HU.out.mid.to).base (by omega) rfl rfl (by simp [exCell]; try omega) ?_; intro v5 w5 H5)
  go_ret
  exact ⟨_, _, _, _, rfl, Lib.hid ⟨HU.out.mid.push H5.out (by have hp0 := pot_zero; simp; omega) (by have hp0 := pot_zero; simp; omega) (by refine ⟨?_, ?_, ?_, ?_, ?_, ?_, ?_, ?_⟩ <;> simp <;> omega) (fun h0 => by first | (have := (Q3.out h0).2; refine ⟨?_, ?_⟩ <;> simp <;> omega) | (refine ⟨?_, ?_⟩ <;> simp)) (by show (l3.length : Int) - 1 < _; omega) (by show (-1 : Int) < _; omega), fun h0 => by have := Q3.out h0; have := P2.out this.1; simp; simp at this; omega⟩⟩
set_option maxRecDepth 100000 in
set_option maxHeartbeats 4000000 in
theorem unary_cast {f : Nat} (HI : InnerS f) {B G r d : Nat} {v : Value} {t : Tok} {us : List Tok} {l : List Ex} (w : World) (h : SIn B G w r v (t :: us) d 0 l) (hd : d ≤ 30) (hf : us.length ≤ f) (b1 : isB (t :: us) 0 [45] = false) (b2 : isB (t :: us) 0 [126] = false) (b3 : isB (t :: us) 0 [40] = false) (hk : t.kind = 3) (b4 : isB (t :: us) 0 [111, 108, 100] = false) (b5 : isB (t :: us) 0 [114, 101, 115, 117, 108, 116] = false) (hT0 : 0 < readT t.text) : Calls Try.prog 105 #[.pointer (some ⟨r, 0, none⟩), v] w (OutE B G r v (t :: us) d 0 l w) := by
  have HR := Lib.hid (fun w => Lex.rread_v ⟨t.text.toArray⟩ w (readT t.text) (read_readT _))
  have hT6 : readT t.text ≤ 6 := by
    unfold readT
    repeat' split
    all_goals omega
  generalize hT : readT t.text = T at *
  have hTb : ((0 : Int) < (T : Int)) := by omega
  clear hT
  have HK := Lib.hid hk
  clear hk
  have hsz := h.sz
  have hln := h.len
  simp only [List.length_cons, pot_zero] at hsz hln
  obtain ⟨t', us', n, cap, p, a, hus, hu, g1, g2, g3, c0, c1, c2, c3, c4, fr, g4, hp, hn, hm, h8, hr, hG, k0, k1, k2⟩ := h.rd.head
  injection hus with hus1 hus2
  subst hus1 hus2
  have c3 : w.cell? ⟨r, 3, none⟩ = some (.int .i64 0) := c3
  simp only [maxLen] at hm
  have HEn := Lib.hid hu
  have HH := Lib.hid h
  have HU := Lib.hid (u_start (t := t) h)
  clear h hu
  go_enter Try.func105, Try.ntmps105
  go_wp2
  go_region
  unfold tokV at HU
  generalize (w.alloc (.cells #[.int .i64 t.kind, .string ⟨t.text.toArray⟩, .int .i64 t.place] 87)).drew = W at *
  generalize w.heap.size = bt at *
  clear c0 c1 c2 c3 c4 fr k0 k1 k2 hr hG hn hm h8 hp
  obtain ⟨z0, z1, z2⟩ := HU.out.cells
  have hk := HK.out
  have hk1 : ((t.kind : Int) == 1) = false := by rw [beq_eq_false_iff_ne]; omega
  have hk2 : ((t.kind : Int) == 2) = false := by rw [beq_eq_false_iff_ne]; omega
  have hk3 : ((t.kind : Int) == 3) = true := by rw [beq_iff_eq]; omega
  have HE2 := Lib.hid (HEn.out (by omega))
  clear hk HK
  go_upto_region 29 with (first | (go_at_call 56; refine (u_is HU.out (x := false) (by assumption)).mono ?_; clear HU z0 z1 z2; rintro y w1 ⟨rfl, HU⟩; obtain ⟨z0, z1, z2⟩ := HU.out.cells) | (go_at_call 71; refine (u_take_no HU.out (by assumption)).mono ?_; clear HU z0 z1 z2; rintro y w1 ⟨rfl, HU⟩; obtain ⟨z0, z1, z2⟩ := HU.out.cells))
  go_upto_region 30 with (go_at_call 68; refine (HR.out _).mono ?_; rintro y w6 ⟨rfl, k6⟩; have HU6 := Lib.hid (HU.out.kept k6); clear HU z0 z1 z2 k6; have HU := HU6; clear HU6; obtain ⟨z0, z1, z2⟩ := HU.out.cells)
  obtain ⟨t', us', n, cap, p, a, hus, hu, -, -, -, c0, c1, c2, c3, c4, fr, g4, hp, hn, hm, h8, hr, hG, k0, k1, k2⟩ := HU.out.mid.to.rd.head
  clear hus hu
  simp only [maxLen] at hm
  have HN := Lib.hid (HU.out.next HE2.out c1)
  go_upto_region 31 with fail
  generalize w6.setCell ⟨r, 1, none⟩ (.int .i64 ((p : Int) + 1)) = w2 at *
  clear HU z0 z1 z2 c0 c1 c2 c3 c4 fr k0 k1 k2 hr hG hn hm h8 hp
  have HU := HN
  clear HN
  obtain ⟨z0, z1, z2⟩ := HU.out.cells
  go_upto_region 32 with (go_at_call 108; refine (u_inner HI HU.out hd (by omega)).mono ?_; clear HU z0 z1 z2; rintro y w3 ⟨a2, cc2, us2, e2, l2, rfl, H3⟩; obtain ⟨h3, q1, q2, q3⟩ := H3.out; have HU := Lib.hid h3; have Q3 := Lib.hid q3; have hl2 := h3.mid.to.len; clear h3 q3 H3; obtain ⟨z0, z1, z2⟩ := HU.out.cells)
  have hwr : IntKind.i64.wrap ((l2.length : Int) - 1) = (l2.length : Int) - 1 := by have := hl2.2.1; rw [IntWalk.i64_in _ (by omega)]
  go_region_held3 (fun w' => w'.cell? ⟨bt, 1, none⟩ = some (.string ⟨t.text.toArray⟩) ∧ w'.cell? ⟨bt, 2, none⟩ = some (.int .i64 t.place))
    (first | go_keep | exact ⟨y1, y2⟩ | exact ⟨x1, x2⟩)
    (first | (go_at_call 68; refine (HR.out _).mono ?_; rintro y w9 ⟨rfl, k9⟩; have K9 := Lib.hid ((Kept.refl w3).drew.trans k9); have H9 := Lib.hid (HU.out.kept K9.out); obtain ⟨y0, y1, y2⟩ := H9.out.cells; clear k9) | (refine step_push rfl _ _ rfl (⟨18, 0, T, [], (l2.length : Int) - 1, -1, t.place⟩) _ w9 H9.out.mid.to.own H9.out.mid.to.base (by omega) rfl rfl (by simp [exCell]; try omega) ?_; intro v5 w5 H5; have HB5 := Lib.hid (H5.out.chg.heap H9.out.box (fun hs => by obtain ⟨_, c', hc'⟩ := own_at H9.out.mid.to.own hs; exact ne_of_ty H9.out.box hc' (by decide) rfl)); obtain ⟨x0, x1, x2⟩ := cells_of HB5.out))
  all_goals
    go_wp2
    go_ret
    exact ⟨_, _, _, _, rfl, Lib.hid ⟨H9.out.mid.push H5.out (by have hp0 := pot_zero; simp; omega) (by have hp0 := pot_zero; simp; omega) (by refine ⟨?_, ?_, ?_, ?_, ?_, ?_, ?_, ?_⟩ <;> simp <;> omega) (fun h0 => by first | (have := Q3.out h0; refine ⟨?_, ?_⟩ <;> simp <;> omega) | (refine ⟨?_, ?_⟩ <;> simp)) (by show (l2.length : Int) - 1 < _; omega) (by show (-1 : Int) < _; omega), fun h0 => by have := Q3.out h0; simp; omega⟩⟩
theorem InnerS.mono {f g : Nat} (h : InnerS g) (hf : f ≤ g) : InnerS f := fun w h1 h2 h3 => h w h1 h2 (Nat.le_trans h3 hf)
theorem unary_step {f : Nat} (HI : InnerS (f + 1)) (HU : UnaryS f) : UnaryS (f + 1) := by
  intro B G r d e v us l w h hd hd2 hm
  by_cases he : e = 0
  case neg => exact unary_bad w h he
  subst he
  replace hd2 := hd2 rfl
  obtain ⟨t, us, rfl, g1, g2, g3, g4⟩ := ends_head h.rd.ends
  have hf : us.length ≤ f := by unfold meas at hm; simp at hm; omega
  have HI' : InnerS f := HI.mono (Nat.le_succ f)
  cases b1 : isB (t :: us) 0 [45] with
  | true => exact unary_minus HU w h hd2 hf b1
  | false =>
  cases b2 : isB (t :: us) 0 [126] with
  | true => exact unary_com HU w h hd2 hf b1 b2
  | false =>
  cases b3 : isB (t :: us) 0 [40] with
  | true => exact unary_paren HI w h hd2 (by omega) b1 b2 b3
  | false =>
  by_cases hk2 : t.kind = 2
  · exact unary_num w h hd2 hf b1 b2 b3 hk2
  by_cases hk1 : t.kind = 1
  · cases b4 : isB us 0 [91] with
    | true => exact unary_elem HI' w h hd2 hf b1 b2 b3 hk1 b4
    | false => exact unary_var w h hd2 hf b1 b2 b3 hk1 b4
  cases b4 : isB (t :: us) 0 [111, 108, 100] with
  | true =>
    obtain ⟨-, t1, us1, e1, e3, -, e2⟩ := isB_yes h.rd.ends b4
    injection e1 with e1 _
    exact unary_old HI' w h hd2 hf b1 b2 b3 (by rw [e1]; omega) b4
  | false =>
  cases b5 : isB (t :: us) 0 [114, 101, 115, 117, 108, 116] with
  | true =>
    obtain ⟨-, t1, us1, e1, e3, -, e2⟩ := isB_yes h.rd.ends b5
    injection e1 with e1 _
    exact unary_result w h hd2 hf b1 b2 b3 (by rw [e1]; omega) b4 b5
  | false =>
  by_cases hr : t.kind = 3 ∧ 0 < readT t.text
  · exact unary_cast HI' w h hd2 hf b1 b2 b3 hr.1 b4 b5 hr.2
  · exact unary_none w h hd2 hf b1 b2 b3 hk1 hk2 b4 b5 (by omega)
end Go.Proofs.Ytnlkcjbnmkpnhaa.Srd
namespace Go.Proofs.Ytnlkcjbnmkpnhaa.Srd
open Go.RowKit
open Lex (Tok Sane)
open Prs (Ex readT)
open Rpr (Chg box_cell box_froz ne_of_ty exCells exCell Pushed own_stay own_at own_form lvlF sgV kdV level_any two_any lvl_len)

theorem row_four {f : Nat} (HU : UnaryS f) : RowS f 4 := by
  intro B G r d e v us l w h hd hd2 hm
  have HX := Lib.hid (HU w h hd hd2 hm)
  clear h HU hd2 hm
  go_enter Try.func100, Try.ntmps100
  go_wp2_with (first | (go_at_call 105; refine (HX.out).mono ?_; rintro x w1 ⟨v1, us1, e1, l1, rfl, H1⟩))
  go_ret
  exact ⟨_, _, _, _, rfl, H1⟩
theorem op_kind {n j : Nat} (hj : j < (lvlF n).length) : 8 ≤ (lvlF n)[j].2 ∧ (lvlF n)[j].2 ≤ 17 := by
  have h : ∀ x ∈ lvlF n, 8 ≤ x.2 ∧ x.2 ≤ 17 := by
    intro x hx
    unfold lvlF at hx
    split at hx
    all_goals simp only [List.mem_cons, List.not_mem_nil, or_false] at hx
    · rcases hx with rfl | rfl | rfl <;> exact ⟨by decide, by decide⟩
    · rcases hx with rfl | rfl <;> exact ⟨by decide, by decide⟩
    · rcases hx with rfl | rfl <;> exact ⟨by decide, by decide⟩
    · rcases hx with rfl | rfl | rfl <;> exact ⟨by decide, by decide⟩
  exact h _ (List.getElem_mem hj)
/-- What stands at the head of each round: of the operators that bind so. -/
structure RwS (B G r d e lvl S : Nat) (v : Value) (w : World) (us : List Tok) (l : List Ex) (wx : World) (vc : Value) (ec : Nat) (uc : List Tok) (lc : List Ex) : Prop where
  out : SMid B G r v w wx vc us uc d e ec l lc
  sg : wx.heap[S]? = some (.cells (sgV (lvlF lvl)) 9 (0, 0))
  kd : wx.heap[S + 1]? = some (.cells (kdV (lvlF lvl)) 3 (0, 0))
  goes : ec = 0 → uc.length < us.length ∧ l.length < lc.length
theorem sg_cell {w : World} {S n j : Nat} (h : w.heap[S]? = some (.cells (sgV (lvlF n)) 9 (0, 0))) (hj : j < (lvlF n).length) : w.cell? ⟨S, j, none⟩ = some (.string ⟨(lvlF n)[j].1.toArray⟩) :=
  box_cell h j _ (by simp [sgV, hj])
theorem kd_cell {w : World} {S n j : Nat} (h : w.heap[S]? = some (.cells (kdV (lvlF n)) 3 (0, 0))) (hj : j < (lvlF n).length) : w.cell? ⟨S, j, none⟩ = some (.int .i64 (lvlF n)[j].2) :=
  box_cell h j _ (by simp [kdV, hj])
theorem meas_le {e : Nat} {us : List Tok} (h : e = 0) : meas e us = us.length := by unfold meas; rw [if_pos h]
theorem meas_bad {e : Nat} (us : List Tok) (h : e ≠ 0) : meas e us = 0 := by unfold meas; rw [if_neg h]
set_option maxRecDepth 100000 in
set_option maxHeartbeats 4000000 in
theorem row_lvl {f lvl : Nat} (hlt : lvl < 4) (HC : RowS f (lvl + 1)) : RowS f lvl := by
  intro B G r d e v us l w h hd hd2 hm
  have hb4 : ((lvl : Int) == 4) = false := by simp; omega
  have hb4' : ¬ ((lvl : Int) = 4) := by omega
  have HX := Lib.hid (HC w h hd hd2 hm)
  have HCH := Lib.hid (fun (w1 : World) (v1 : Value) (us1 : List Tok) (l1 : List Ex) (h1 : SIn B G w1 r v1 us1 d 0 l1) (hd30 : d ≤ 30) (hm1 : us1.length ≤ f) => HC w1 h1 hd (fun _ => hd30) (by rw [meas_le rfl]; exact hm1))
  have HI := Lib.hid h
  have HM := Lib.hid (And.intro hd2 hm)
  clear h HC hd2 hm
  go_enter Try.func100, Try.ntmps100
  go_wp2_with (first | (go_at_call 100; refine (HX.out).mono ?_; rintro y w1 ⟨v1, u1, e1, l1, rfl, H1⟩) | (go_at_call 106; refine (level_any _ _ hlt).mono ?_; rintro y w2 ⟨rfl, rfl⟩))
  go_loopg [1, 9, 10, 11, 12] (meas e1 u1) (fun k x _ _ _ _ wx => ∃ ec uc lc, k = meas ec uc ∧ RwS B G r d e lvl w1.heap.size v w us l wx x ec uc lc)
  case atStart =>
    have hk := ((Kept.refl w1).alloc (.cells (sgV (lvlF lvl)) 9)).alloc (.cells (kdV (lvlF lvl)) 3)
    exact ⟨e1, u1, l1, rfl, H1.out.1.kept hk, heap_alloc2_old w1 _ _, heap_alloc2_new w1 _ _, H1.out.2⟩
  case round =>
    obtain ⟨ec, uc, lc, hk, ha⟩ := hrel
    rename World => wo
    have HA := Lib.hid ha
    have HH := Lib.hid (fun w (h : SR B G w r uc d ec) => here_any w h)
    obtain ⟨c3, hr3, hb10⟩ := ha.out.to.rd.bad_cell
    obtain ⟨av, cv, hvc⟩ := own_form ha.out.to.own
    subst hvc
    have hl1 := ha.out.to.len
    have hpots := ha.out.pots
    by_cases hec : ec = 0
    case neg =>
      have hbe : ((ec : Int) == 0) = false := by rw [beq_eq_false_iff_ne]; omega
      clear ha
      go_wp2
      go_ret
      exact ⟨_, _, _, _, rfl, Lib.hid ⟨HA.out.out, HA.out.goes⟩⟩
    subst hec
    have c3 : wo.cell? ⟨r, 3, none⟩ = some (.int .i64 0) := c3
    have hl0 := (ha.goes rfl).2
    have hu0 := (ha.goes rfl).1
    have he0 := ha.out.bad rfl
    have hd30 := HM.out.1 he0
    have hmf : us.length ≤ f := by have := HM.out.2; rw [meas_le he0] at this; exact this
    clear he0
    have hq : ((lc.length : Int) - 1) = ((lc.length - 1 : Nat) : Int) := by omega
    clear ha
    generalize hm : lc.length - 1 = m at *
    rw [pot_zero] at hpots
    go_wp2_with (first | (go_at_call 57; refine (HH.out _ HA.out.out.to.rd).mono ?_; rintro y w2 ⟨pl, rfl, H2⟩))
    have hln := lvl_len (n := lvl)
    go_loopg [11, 12] (lvlF lvl).length (fun k y z wy => ∃ j, z = .int .i64 (j : Nat) ∧ k = (lvlF lvl).length - j ∧ j ≤ (lvlF lvl).length ∧ ((y = .int .i64 0 ∧ Hid (Kept wo wy)) ∨ ∃ K : Nat, y = .int .i64 K ∧ K ≠ 0 ∧ Hid (8 ≤ K ∧ K ≤ 17 ∧ Chg (fun k => k = r) wo wy ∧ ∃ u2, u2.length + 1 = uc.length ∧ SR B G wy r u2 d 0)))
    case atStart => exact ⟨0, rfl, rfl, Nat.zero_le _, .inl ⟨rfl, Lib.hid H2.out.2⟩⟩
    case round =>
      obtain ⟨j, rfl, hkj, hj, hcase⟩ := hrel
      have hj3 : j ≤ 3 := by omega
      rcases hcase with ⟨rfl, HN⟩ | ⟨K, rfl, hK, HN⟩
      · by_cases hjl : j < (lvlF lvl).length
        · have hjb : ((j : Int) < ((lvlF lvl).length : Int)) := by omega
          have c1 := sg_cell ((Chg.of_kept (S := fun _ => False) HN.out).heap HA.out.sg id) hjl
          have hne := (HA.out.out.to.rd.apart HA.out.kd (by decide) (by decide)).1
          have hkd := (Chg.of_kept (S := fun _ => False) HN.out).heap HA.out.kd id
          have hop := op_kind hjl
          cases ht : isB uc 0 (lvlF lvl)[j].1 with
          | true =>
            have HT := Lib.hid (take_yes wr (lvlF lvl)[j].1 (HA.out.out.to.rd.kept HN.out) ht)
            clear ht
            go_wp2_with (first | (go_at_call 71; refine (HT.out).mono ?_; rintro y w3 ⟨rfl, H3⟩; obtain ⟨u2, -, t1, t2, t3⟩ := H3.out; have T2 := Lib.hid t2; have T3 := Lib.hid t3; have c2 := kd_cell (t2.heap hkd hne) hjl; clear t2 t3 H3))
            go_roundg ((lvlF lvl).length - (j + 1))
            case measure => omega
            case rel => exact ⟨j + 1, by simp, rfl, by omega, .inr ⟨(lvlF lvl)[j].2, rfl, by omega, Lib.hid ⟨hop.1, hop.2, (Chg.of_kept HN.out).then T2.out, u2, t1, T3.out⟩⟩⟩
          | false =>
            have HT := Lib.hid (take_no wr (lvlF lvl)[j].1 (HA.out.out.to.rd.kept HN.out) ht)
            clear ht
            go_wp2_with (first | (go_at_call 71; refine (HT.out).mono ?_; rintro y w3 ⟨rfl, H3⟩))
            go_roundg ((lvlF lvl).length - (j + 1))
            case measure => omega
            case rel => exact ⟨j + 1, by simp, rfl, by omega, .inl ⟨rfl, Lib.hid (HN.out.trans H3.out)⟩⟩
        · have hjb : ¬ ((j : Int) < ((lvlF lvl).length : Int)) := by omega
          go_wp2_with fail
          go_ret
          exact ⟨.slice av lc.length cv, uc, 0, lc, rfl, Lib.hid ⟨HA.out.out.kept HN.out, HA.out.goes⟩⟩
      · have hKb : ((K : Int) == 0) = false := by simp; exact hK
        have hKb' : ¬ ((K : Int) = 0) := by omega
        obtain ⟨hk8, hk17, hcg, u2, hu2, hs2⟩ := HN.out
        have hI := SMid.reader HA.out.out.to hcg hs2 (by omega) (by omega) (fun _ => rfl)
        have HX2 := Lib.hid (HCH.out _ _ _ _ hI.to hd30 (by omega))
        have HI2 := Lib.hid hI
        clear hcg hs2 hI
        rcases (show j < (lvlF lvl).length ∨ ¬ j < (lvlF lvl).length by omega) with hjl | hjl
        case' inl => have hjb : ((j : Int) < ((lvlF lvl).length : Int)) := by omega
        case' inr => have hjb : ¬ ((j : Int) < ((lvlF lvl).length : Int)) := by omega
        all_goals
          go_wp2_with (first | (go_at_call 100; refine (HX2.out).mono ?_; rintro y w4 ⟨v4, us4, e4, l4, rfl, H4⟩; have h4l := H4.out.1.to.len; have h4m := H4.out.1.more; have h4p := H4.out.1.pots; have h4s := H4.out.1.less) | (go_at_call 107; refine (two_any w4 m K pl H4.out.1.to.own H4.out.1.to.base (by omega) (by omega)).mono ?_; rintro y w5 ⟨v5, rfl, H5⟩))
          rw [pot_zero] at h4p
          have E := SMid.push ((HA.out.out.trans HI2.out).trans H4.out.1) H5.out (by omega) HI.out.sz (by have := H2.out.1; refine ⟨?_, ?_, ?_, ?_, ?_, ?_, ?_, ?_⟩ <;> simp <;> omega) (fun _ => by refine ⟨?_, ?_⟩ <;> simp) (by show ((m : Nat) : Int) < _; omega) (by show ((l4.length - 1 : Nat) : Int) < _; omega)
          have E2 := SMid.push (HI2.out.trans H4.out.1) H5.out (by rw [pot_zero]; omega) HA.out.out.to.sz (by have := H2.out.1; refine ⟨?_, ?_, ?_, ?_, ?_, ?_, ?_, ?_⟩ <;> simp <;> omega) (fun _ => by refine ⟨?_, ?_⟩ <;> simp) (by show ((m : Nat) : Int) < _; omega) (by show ((l4.length - 1 : Nat) : Int) < _; omega)
          go_roundg (meas e4 us4)
          case measure =>
            rw [hk, meas_le rfl]
            rcases (show e4 = 0 ∨ e4 ≠ 0 by omega) with h0 | h0
            · rw [meas_le h0]; omega
            · rw [meas_bad _ h0]; omega
          case rel => exact ⟨e4, us4, _, rfl, E, E2.heap HA.out.out.to HA.out.sg (by decide) (by decide), E2.heap HA.out.out.to HA.out.kd (by decide) (by decide), fun h0 => ⟨by omega, by simp; omega⟩⟩
/-- All of them, whatever is left to read. -/
theorem reads (f : Nat) : UnaryS f ∧ ∀ lvl, lvl ≤ 4 → RowS f lvl := by
  have rows : ∀ f, UnaryS f → ∀ lvl, lvl ≤ 4 → RowS f lvl := by
    intro f HU lvl hl
    rcases (show lvl = 4 ∨ lvl = 3 ∨ lvl = 2 ∨ lvl = 1 ∨ lvl = 0 by omega) with rfl | rfl | rfl | rfl | rfl
    · exact row_four HU
    · exact row_lvl (by omega) (row_four HU)
    · exact row_lvl (by omega) (row_lvl (by omega) (row_four HU))
    · exact row_lvl (by omega) (row_lvl (by omega) (row_lvl (by omega) (row_four HU)))
    · exact row_lvl (by omega) (row_lvl (by omega) (row_lvl (by omega) (row_lvl (by omega) (row_four HU))))
  induction f with
  | zero =>
    have HU : UnaryS 0 := by
      intro B G r d e v us l w h hd hd2 hm
      by_cases he : e = 0
      · rw [meas_le he] at hm
        have := h.len.1
        omega
      · exact unary_bad w h he
    exact ⟨HU, rows 0 HU⟩
  | succ f ih =>
    have HI : InnerS (f + 1) := inner_step (ih.2 0 (by omega))
    have HU : UnaryS (f + 1) := unary_step HI ih.1
    exact ⟨HU, rows _ HU⟩
/-- An expression, whatever is left to read. -/
theorem expr_any {B G r d e : Nat} {v : Value} {us : List Tok} {l : List Ex} (w : World) (h : SIn B G w r v us d e l) (hd : d ≤ 31) (hd2 : e = 0 → d ≤ 30) :
    Calls Try.prog 90 #[.pointer (some ⟨r, 0, none⟩), v] w (OutE B G r v us d e l w) :=
  expr_of ((reads (meas e us)).2 0 (by omega)) w h hd hd2 (Nat.le_refl _)
end Go.Proofs.Ytnlkcjbnmkpnhaa.Srd
namespace Go.Proofs.Ytnlkcjbnmkpnhaa.Srd
open Go.RowKit
open Lex (Tok Sane)
open Prs (Ex Cn readT)
open Rpr (Chg box_cell box_froz ne_of_ty exCells exCell own_stay own_at own_form CnCells cnCell PushedC wpList_pushC NoEx own_chg)

def CnOk (c : Cn) : Prop := 1 ≤ c.kind ∧ c.kind ≤ 4 ∧ c.rel ≤ 6 ∧ c.place ≤ 8192 ∧ -1 ≤ c.a ∧ -1 ≤ c.b ∧ c.x.length ≤ 8193 ∧ c.y.length ≤ 8193
def CReal (c : Cn) : Prop := (2 ≤ c.kind → 0 ≤ c.a) ∧ (3 ≤ c.kind → 0 ≤ c.b) ∧ (c.kind = 1 → 1 ≤ c.rel ∧ c.x ≠ [] ∧ c.y ≠ [])
structure CNodes (e : Nat) (l : List Cn) : Prop where
  down : ∀ i (h : i < l.length), l[i].a < i ∧ l[i].b < i
  ok : ∀ c ∈ l, CnOk c
  kids : ∀ c ∈ l, Nodes e c.x ∧ Nodes e c.y
  real : e = 0 → ∀ c ∈ l, CReal c
theorem CNodes.nil (e : Nat) : CNodes e [] := ⟨fun i h => by simp at h, fun n h => (by cases h), fun n h => (by cases h), fun _ n h => (by cases h)⟩
theorem CNodes.push {e : Nat} {l : List Cn} {n : Cn} (h : CNodes e l) (h1 : CnOk n) (hk : Nodes e n.x ∧ Nodes e n.y) (h2 : e = 0 → CReal n) (ha : n.a < l.length) (hb : n.b < l.length) : CNodes e (l ++ [n]) := by
  refine ⟨fun i hi => ?_, fun m hm => ?_, fun m hm => ?_, fun he m hm => ?_⟩
  · by_cases hl : i < l.length
    · rw [List.getElem_append_left hl]; exact h.down i hl
    · obtain rfl : i = l.length := by simp at hi; omega
      simpa using ⟨ha, hb⟩
  · rcases List.mem_append.1 hm with hm | hm
    · exact h.ok m hm
    · obtain rfl : m = n := by simpa using hm
      exact h1
  · rcases List.mem_append.1 hm with hm | hm
    · exact h.kids m hm
    · obtain rfl : m = n := by simpa using hm
      exact hk
  · rcases List.mem_append.1 hm with hm | hm
    · exact h.real he m hm
    · obtain rfl : m = n := by simpa using hm
      exact h2 he
theorem CNodes.bad {e e' : Nat} {l : List Cn} (h : CNodes e l) (he : e' = 0 → e = 0) : CNodes e' l := ⟨h.down, h.ok, fun c hc => ⟨(h.kids c hc).1.bad he, (h.kids c hc).2.bad he⟩, fun h0 => h.real (he h0)⟩
structure SCIn (B G : Nat) (w : World) (r : Nat) (v : Value) (us : List Tok) (d e : Nat) (l : List Cn) : Prop where
  rd : SR B G w r us d e
  own : ∃ xs, w.ownsRow B 56 7 v l.length xs ∧ CnCells w B l xs
  sz : l.length + us.length + pot e ≤ 8194
  nodes : CNodes e l
/-- Along the way: X are lists of nodes that were read besides. -/
structure SCMid (B G r : Nat) (v : Value) (w w' : World) (v' : Value) (us us' : List Tok) (d' e e' : Nat) (l l' : List Cn) (X : List (Value × List Ex)) : Prop where
  chg : Chg (fun k => k = r ∨ v.ownBlock = some k) w w'
  at_ : v'.ownBlock = v.ownBlock ∨ ∃ g, v'.ownBlock = some g ∧ w.heap.size ≤ g
  to : SCIn B G w' r v' us' d' e' l'
  less : us'.length ≤ us.length
  more : l.length ≤ l'.length
  pots : l'.length + us'.length + pot e' ≤ l.length + us.length + pot e
  bad : e' = 0 → e = 0
  rows : ∀ p ∈ X, w'.ownsRow B 51 7 p.1 p.2.length (exCells p.2)
section
variable {B G : Nat} {w w1 w2 w' : World} {r : Nat} {v v1 v2 v' : Value} {us us1 us2 us' : List Tok} {d d1 d' e e1 e2 e' : Nat} {l l1 l2 l' : List Cn} {X : List (Value × List Ex)}
theorem SCIn.base (h : SCIn B G w r v us d e l) : B ≤ w.heap.size := by have := h.rd.above; have := h.rd.lt; omega
theorem SCIn.form (h : SCIn B G w r v us d e l) : ∃ a c, v = .slice a l.length c := by obtain ⟨xs, h1, _⟩ := h.own; exact own_form h1
theorem SCIn.at_ (h : SCIn B G w r v us d e l) {g : Nat} (hg : v.ownBlock = some g) : B ≤ g ∧ ∃ c, w.heap[g]? = some (.cells c 56 (0, 0)) := by
  obtain ⟨xs, h1, _⟩ := h.own
  exact own_at h1 hg
theorem SCIn.no (h : SCIn B G w r v us d e l) {g : Nat} (hg : v.ownBlock = some g) : g ≠ r ∧ g ≠ G := by
  obtain ⟨_, c, hc⟩ := h.at_ hg
  exact h.rd.apart hc (by decide) (by decide)
theorem SCIn.noEx (h : SCIn B G w r v us d e l) : NoEx w (fun k => k = r ∨ v.ownBlock = some k) := fun g c hc hs => by
  rcases hs with rfl | hs
  · exact (h.rd.apart hc (by decide) (by decide)).1 rfl
  · obtain ⟨_, c3, hc3⟩ := h.at_ hs
    exact ne_of_ty hc hc3 (by decide) rfl
theorem SCIn.len (h : SCIn B G w r v us d e l) : 1 ≤ us.length ∧ l.length ≤ 8193 ∧ us.length ≤ 8194 := by
  obtain ⟨t, us', h1, _⟩ := ends_head h.rd.ends
  have h2 := h.sz
  rw [h1] at h2 ⊢
  simp at h2 ⊢
  omega
theorem SCIn.reader (h : SCIn B G w r v us d e l) (hc : Chg (fun k => k = r) w w') (hr : SR B G w' r us' d' e') (hs : us'.length + pot e' ≤ us.length + pot e) (h3 : e' = 0 → e = 0) : SCIn B G w' r v us' d' e' l := by
  obtain ⟨xs, h1, h2⟩ := h.own
  exact ⟨hr, ⟨xs, own_stay h1 hc (fun _ hg => (h.no hg).1), h2.chg hc fun g c hc hs => h.noEx g c hc (.inl hs)⟩, by have := h.sz; omega, h.nodes.bad h3⟩
theorem SCMid.refl (h : SCIn B G w r v us d e l) : SCMid B G r v w w v us us d e e l l [] := ⟨Chg.refl _ _, .inl rfl, h, Nat.le_refl _, Nat.le_refl _, Nat.le_refl _, id, by simp⟩
theorem SCMid.reader (h : SCMid B G r v w w1 v1 us us1 d1 e e1 l l1 X) (hc : Chg (fun k => k = r) w1 w') (hr : SR B G w' r us' d' e') (h1 : us'.length ≤ us1.length) (h2 : us'.length + pot e' ≤ us1.length + pot e1) (h3 : e' = 0 → e1 = 0) : SCMid B G r v w w' v1 us us' d' e e' l l1 X :=
  ⟨h.chg.trans hc fun _ _ e => .inl e, h.at_, h.to.reader hc hr h2 h3, Nat.le_trans h1 h.less, h.more, by have := h.pots; omega, fun h0 => h.bad (h3 h0), fun p hp => own_chg (h.rows p hp) hc fun g c hc hs => h.to.noEx g c hc (.inl hs)⟩
theorem SCMid.kept (h : SCMid B G r v w w1 v1 us us1 d1 e e1 l l1 X) (hk : Kept w1 w') : SCMid B G r v w w' v1 us us1 d1 e e1 l l1 X := h.reader (Chg.of_kept hk) (h.to.rd.kept hk) (Nat.le_refl _) (Nat.le_refl _) id
theorem SCMid.trans {Y : List (Value × List Ex)} (h : SCMid B G r v w w1 v1 us us1 d1 e e1 l l1 X) (k : SCMid B G r v1 w1 w2 v2 us1 us2 d' e1 e2 l1 l2 Y) : SCMid B G r v w w2 v2 us us2 d' e e2 l l2 X := by
  refine ⟨h.chg.trans k.chg fun i hi hs => ?_, ?_, k.to, Nat.le_trans k.less h.less, Nat.le_trans h.more k.more, Nat.le_trans k.pots h.pots, fun h0 => h.bad (k.bad h0), fun p hp => own_chg (h.rows p hp) k.chg h.to.noEx⟩
  · rcases hs with hs | hs
    · exact .inl hs
    · rcases h.at_ with e | ⟨g, e, hg⟩
      · exact .inr (e ▸ hs)
      · rw [e] at hs; injection hs with hs; omega
  · rcases k.at_ with e | ⟨g, e, hg⟩
    · rcases h.at_ with e' | h'
      · exact .inl (e.trans e')
      · exact .inr (e ▸ h')
    · exact .inr ⟨g, e, Nat.le_trans h.chg.size hg⟩
theorem SCMid.drop (h : SCMid B G r v w w1 v1 us us1 d1 e e1 l l1 X) : SCMid B G r v w w1 v1 us us1 d1 e e1 l l1 [] := ⟨h.chg, h.at_, h.to, h.less, h.more, h.pots, h.bad, by simp⟩
theorem SCMid.push {c : Cn} (h : SCMid B G r v w w1 v1 us us1 d1 e e1 l l1 X) (hp : PushedC B v1 w1 l1 c w' v') (hs : l1.length + 1 + us1.length + pot e1 ≤ l.length + us.length + pot e) (h0 : l.length + us.length + pot e ≤ 8194) (h1 : CnOk c) (hk : Nodes e1 c.x ∧ Nodes e1 c.y) (h2 : e1 = 0 → CReal c) (ha : c.a < l1.length) (hb : c.b < l1.length) : SCMid B G r v w w' v' us us1 d1 e e1 l (l1 ++ [c]) [] := by
  refine ⟨h.chg.trans hp.chg fun i hi hs => ?_, ?_, ⟨h.to.rd.chg hp.chg (fun _ hk => h.to.no hk), hp.own, by simp; omega, h.to.nodes.push h1 hk h2 ha hb⟩, h.less, by have := h.more; simp; omega, by simp; omega, h.bad, by simp⟩
  · rcases h.at_ with e | ⟨g, e, hg⟩
    · exact .inr (e ▸ hs)
    · rw [e] at hs; injection hs with hs; omega
  · rcases hp.at_ with e | ⟨g, e, hg⟩
    · rcases h.at_ with e' | h'
      · exact .inl (e.trans e')
      · exact .inr (e ▸ h')
    · exact .inr ⟨g, e, Nat.le_trans h.chg.size hg⟩
/-- A list of nodes is read besides. -/
theorem SCMid.expr {lx : List Ex} {vx : Value} (h : SCMid B G r v w w1 v1 us us1 d1 e e1 l l1 X) (k : SMid B G r (.slice none 0 0) w1 w' vx us1 us' d1 e1 e' [] lx) : SCMid B G r v w w' v1 us us' d1 e e' l l1 ((vx, lx) :: X) := by
  have hc : Chg (fun k => k = r) w1 w' := k.chg.mono fun i _ hs => by
    rcases hs with hs | hs
    · exact hs
    · simp [Value.ownBlock] at hs
  have h2 := h.reader hc k.to.rd k.less (by have := k.pots; simp at this; omega) k.bad
  refine ⟨h2.chg, h2.at_, h2.to, h2.less, h2.more, h2.pots, h2.bad, fun p hp => ?_⟩
  rcases List.mem_cons.1 hp with rfl | hp
  · exact k.to.own
  · exact h2.rows p hp
end
section
variable {B G : Nat} {w wc : World} {r : Nat} {v v1 : Value} {us us1 : List Tok} {d1 e e1 : Nat} {l l1 : List Cn} {X : List (Value × List Ex)} {s : List UInt8}
theorem c_here (h : SCMid B G r v w wc v1 us us1 d1 e e1 l l1 X) : Calls Try.prog 57 #[.pointer (some ⟨r, 0, none⟩)] wc fun x w' => ∃ a : Nat, x = .returned (.int .i64 a) ∧ Hid (a ≤ 8192 ∧ SCMid B G r v w w' v1 us us1 d1 e e1 l l1 X) :=
  (here_any wc h.to.rd).mono fun _ _ ⟨a, h1, h2⟩ => ⟨a, h1, Lib.hid ⟨h2.out.1, h.kept h2.out.2⟩⟩
theorem c_is {x : Bool} (h : SCMid B G r v w wc v1 us us1 d1 e e1 l l1 X) (hb : isB us1 e1 s = x) : Calls Try.prog 56 #[.pointer (some ⟨r, 0, none⟩), .string ⟨s.toArray⟩] wc fun y w' => y = .returned (.bool x) ∧ Hid (SCMid B G r v w w' v1 us us1 d1 e e1 l l1 X) := by
  have := is_any wc s h.to.rd
  rw [hb] at this
  exact this.mono fun _ _ ⟨h1, h2⟩ => ⟨h1, Lib.hid (h.kept h2)⟩
theorem c_open (h : SCMid B G r v w wc v1 us us1 d1 e 0 l l1 X) (hd : d1 ≤ 30) : Calls Try.prog 89 #[.pointer (some ⟨r, 0, none⟩), .string ⟨s.toArray⟩] wc fun y w' => y = .returned (.tuple #[]) ∧ Hid (∃ us2 e2, SCMid B G r v w w' v1 us us2 (d1 + 1) e e2 l l1 X ∧ us2.length ≤ us1.length ∧ (e2 = 0 → us2.length + 1 = us1.length ∧ d1 < 30)) := by
  refine (open_any wc s h.to.rd (by omega)).mono ?_
  rintro y w' ⟨rfl, H⟩
  obtain ⟨us2, e2, h1, h2, h3, h4⟩ := H.out
  exact ⟨rfl, Lib.hid ⟨us2, e2, h.reader h1 h2 h3 (by have := pot_le e2; rw [pot_zero]; omega) (fun _ => rfl), h3, fun h0 => (h4 h0).2⟩⟩
theorem c_want (h : SCMid B G r v w wc v1 us us1 d1 e e1 l l1 X) : Calls Try.prog 58 #[.pointer (some ⟨r, 0, none⟩), .string ⟨s.toArray⟩] wc fun y w' => y = .returned (.tuple #[]) ∧ Hid (∃ us2 e2, SCMid B G r v w w' v1 us us2 d1 e e2 l l1 X ∧ us2.length ≤ us1.length ∧ us2.length + pot e2 ≤ us1.length + pot e1 ∧ (e2 = 0 → e1 = 0 ∧ us2.length + 1 = us1.length)) := by
  refine (want_any wc s h.to.rd).mono ?_
  rintro y w' ⟨rfl, H⟩
  obtain ⟨us2, e2, h1, h2, h3, h4⟩ := H.out
  have hp : us2.length + pot e2 ≤ us1.length + pot e1 := by
    rcases (show e2 = 0 ∨ 0 < e2 by omega) with h0 | h0
    · obtain ⟨q1, q2⟩ := h4 h0; rw [h0, q1]; omega
    · rw [pot_pos h0]; omega
  exact ⟨rfl, Lib.hid ⟨us2, e2, h.reader h1 h2 h3 hp (fun h0 => (h4 h0).1), h3, hp, h4⟩⟩
theorem c_fail {c : Nat} (hc : 0 < c ∧ c ≤ 10) (h : SCMid B G r v w wc v1 us us1 d1 e e1 l l1 X) : Calls Try.prog 31 #[.pointer (some ⟨r, 0, none⟩), .int .i64 c] wc fun y w' => y = .returned (.tuple #[]) ∧ Hid (∃ e2, 0 < e2 ∧ SCMid B G r v w w' v1 us us1 d1 e e2 l l1 X) := by
  refine (fail_any wc c hc h.to.rd).mono ?_
  rintro y w' ⟨rfl, H⟩
  obtain ⟨e2, h1, h2, h3⟩ := H.out
  exact ⟨rfl, Lib.hid ⟨e2, h1, h.reader h3 h2 (Nat.le_refl _) (by rw [pot_pos h1]; omega) (fun h0 => by omega)⟩⟩
theorem SCMid.next {p : Nat} {t1 : Tok} (h : SCMid B G r v w wc v1 us (t1 :: us1) d1 e 0 l l1 X) (hu : Lex.Ends us1) (hp : wc.cell? ⟨r, 1, none⟩ = some (.int .i64 (p : Nat))) : SCMid B G r v w (wc.setCell ⟨r, 1, none⟩ (.int .i64 ((p : Int) + 1))) v1 us us1 d1 e 0 l l1 X := by
  have hx := h.to.rd.next hu hp
  exact h.reader hx.2 hx.1 (by simp) (by simp) id
theorem SCMid.dive (d : Nat) (h : SCMid B G r v w wc v1 us us1 d1 e e1 l l1 X) (hd : d ≤ 10000) : SCMid B G r v w (wc.setCell ⟨r, 2, none⟩ (.int .i64 d)) v1 us us1 d e e1 l l1 X := by
  have hx := h.to.rd.dive d hd
  exact h.reader hx.2 hx.1 (Nat.le_refl _) (Nat.le_refl _) id
theorem c_expr (h : SCMid B G r v w wc v1 us us1 d1 e e1 l l1 X) (hd : d1 ≤ 31) (hd2 : e1 = 0 → d1 ≤ 30) : Calls Try.prog 90 #[.pointer (some ⟨r, 0, none⟩), .slice none 0 0] wc fun x w' => ∃ ax cx us2 e2 lx, x = .returned (.slice ax lx.length cx) ∧ Hid (SCMid B G r v w w' v1 us us2 d1 e e2 l l1 ((.slice ax lx.length cx, lx) :: X) ∧ Nodes e2 lx ∧ lx.length ≤ 8193 ∧ us2.length ≤ us1.length ∧ us2.length + pot e2 ≤ us1.length + pot e1 ∧ (e2 = 0 → e1 = 0 ∧ us2.length < us1.length ∧ lx ≠ [])) := by
  have h0 : SIn B G wc r (.slice none 0 0) us1 d1 e1 [] := ⟨h.to.rd, World.ownsRow_nil _ _ _ _, by have := h.to.sz; simp; omega, Nodes.nil _⟩
  refine (expr_any wc h0 hd hd2).mono ?_
  rintro x w' ⟨vx, us2, e2, lx, rfl, H⟩
  obtain ⟨ax, cx, rfl⟩ := own_form H.out.1.to.own
  refine ⟨ax, cx, us2, e2, lx, rfl, Lib.hid ⟨h.expr H.out.1, H.out.1.to.nodes, H.out.1.to.len.2.1, H.out.1.less, by have := H.out.1.pots; simp at this; omega, fun hz => ⟨H.out.1.bad hz, (H.out.2 hz).1, fun h => ?_⟩⟩⟩
  have := (H.out.2 hz).2
  rw [h] at this; simp at this
end
/-- What a call that reads a condition tells. -/
def OutC (B G r : Nat) (v : Value) (us : List Tok) (d e : Nat) (l : List Cn) (w : World) (x : Ending) (w' : World) : Prop :=
  ∃ v' us' e' l', x = .returned v' ∧ Hid (SCMid B G r v w w' v' us us' d e e' l l' [] ∧ (e' = 0 → us'.length < us.length ∧ l.length < l'.length))
def OneS (f : Nat) : Prop := ∀ (B G r d e : Nat) (v : Value) (us : List Tok) (l : List Cn) (w : World), SCIn B G w r v us d e l → d ≤ 31 → (e = 0 → d ≤ 30) → meas e us ≤ f →
  Calls Try.prog 70 #[.pointer (some ⟨r, 0, none⟩), v] w (OutC B G r v us d e l w)
def BothS (f : Nat) : Prop := ∀ (B G r d e : Nat) (v : Value) (us : List Tok) (l : List Cn) (w : World), SCIn B G w r v us d e l → d ≤ 31 → (e = 0 → d ≤ 30) → meas e us ≤ f →
  Calls Try.prog 55 #[.pointer (some ⟨r, 0, none⟩), v] w (OutC B G r v us d e l w)
def EitherS (f : Nat) : Prop := ∀ (B G r d e : Nat) (v : Value) (us : List Tok) (l : List Cn) (w : World), SCIn B G w r v us d e l → d ≤ 31 → (e = 0 → d ≤ 30) → meas e us ≤ f →
  Calls Try.prog 30 #[.pointer (some ⟨r, 0, none⟩), v] w (OutC B G r v us d e l w)
/-- The same, along the way. -/
theorem c_read {n : Nat} {B G r : Nat} {v v1 : Value} {w wc : World} {us us1 : List Tok} {d1 e e1 : Nat} {l l1 : List Cn} {X : List (Value × List Ex)} (h : SCMid B G r v w wc v1 us us1 d1 e e1 l l1 X) (H : Calls Try.prog n #[.pointer (some ⟨r, 0, none⟩), v1] wc (OutC B G r v1 us1 d1 e1 l1 wc)) :
    Calls Try.prog n #[.pointer (some ⟨r, 0, none⟩), v1] wc fun x w' => ∃ a2 c2 us2 e2 l2, x = .returned (.slice a2 l2.length c2) ∧ Hid (SCMid B G r v w w' (.slice a2 l2.length c2) us us2 d1 e e2 l l2 X ∧ us2.length ≤ us1.length ∧ l1.length ≤ l2.length ∧ l2.length + us2.length + pot e2 ≤ l1.length + us1.length + pot e1 ∧ (e2 = 0 → e1 = 0 ∧ us2.length < us1.length ∧ l1.length < l2.length)) := by
  refine H.mono ?_
  rintro x w' ⟨v2, us2, e2, l2, rfl, K⟩
  obtain ⟨a2, c2, rfl⟩ := K.out.1.to.form
  exact ⟨a2, c2, us2, e2, l2, rfl, Lib.hid ⟨h.trans K.out.1, K.out.1.less, K.out.1.more, K.out.1.pots, fun h0 => ⟨K.out.1.bad h0, (K.out.2 h0).1, (K.out.2 h0).2⟩⟩⟩
theorem kcell {w w' : World} {p : Addr} {v : Value} (hk : Kept w w') (hp : p.block < w.heap.size) (h : w.cell? p = some v) : w'.cell? p = some v := (World.cell?_of_block (Below.block hk _ hp)).trans h
set_option maxRecDepth 100000 in
set_option maxHeartbeats 4000000 in
theorem one_bad {B G r d e : Nat} {v : Value} {us : List Tok} {l : List Cn} (w : World) (h : SCIn B G w r v us d e l) (he : e ≠ 0) : Calls Try.prog 70 #[.pointer (some ⟨r, 0, none⟩), v] w (OutC B G r v us d e l w) := by
  obtain ⟨c3, hr, he10⟩ := h.rd.bad_cell
  have hb : ((e : Int) != 0) = true := by rw [bne_iff_ne]; omega
  have H := Lib.hid (SCMid.refl h)
  clear h
  go_enter Try.func70, Try.ntmps70
  go_wp2
  go_ret
  exact ⟨_, _, _, _, rfl, Lib.hid ⟨H.out, fun h => absurd h he⟩⟩
set_option maxRecDepth 100000 in
set_option maxHeartbeats 4000000 in
theorem one_not {f : Nat} (HOne : OneS f) {B G r d : Nat} {v : Value} {us : List Tok} {l : List Cn} (w : World) (h : SCIn B G w r v us d 0 l) (hd : d ≤ 30) (hf : us.length ≤ f + 1) (b1 : isB us 0 [110, 111, 116] = true) : Calls Try.prog 70 #[.pointer (some ⟨r, 0, none⟩), v] w (OutC B G r v us d 0 l w) := by
  have HC := Lib.hid (SCMid.refl h)
  have hsz := h.sz
  have hln := h.len
  rw [pot_zero] at hsz
  obtain ⟨aa, cc, rfl⟩ := h.form
  obtain ⟨c3, hr3, -⟩ := h.rd.bad_cell
  have c3 : w.cell? ⟨r, 3, none⟩ = some (.int .i64 0) := c3
  clear h
  go_enter Try.func70, Try.ntmps70
  go_upto_region 6 with (first | (go_at_call 57; refine (c_here HC.out).mono ?_; clear HC; rintro y wh ⟨pl, rfl, HHe⟩; obtain ⟨hpl, hc⟩ := HHe.out; have HC := Lib.hid hc; clear HHe hc) | (go_at_call 56; refine (c_is HC.out (x := true) (by assumption)).mono ?_; clear HC; rintro y wi ⟨rfl, HC⟩) | (go_at_call 89; refine (c_open HC.out hd).mono ?_; clear HC; rintro y wo ⟨rfl, HO⟩; obtain ⟨us2, e2, h2, p1, p2⟩ := HO.out; clear HO; have HC := Lib.hid h2; have P2 := Lib.hid p2; clear h2 p2))
  have hmeas : meas e2 us2 ≤ f := by
    rcases (show e2 = 0 ∨ e2 ≠ 0 by omega) with h0 | h0
    · rw [meas_le h0]; have := P2.out h0; omega
    · rw [meas_bad _ h0]; omega
  have hpt : us2.length + pot e2 ≤ us.length := by
    rcases (show e2 = 0 ∨ 0 < e2 by omega) with h0 | h0
    · have := P2.out h0; rw [h0, pot_zero]; omega
    · rw [pot_pos h0]; omega
  have HX := Lib.hid (c_read HC.out (HOne _ _ _ _ _ _ _ _ _ HC.out.to (by omega) (fun h0 => by have := P2.out h0; omega) hmeas))
  go_upto_region 7 with (go_at_call 70; refine (HX.out).mono ?_; clear HC HX; rintro y w4 ⟨a4, k4, us4, e4, l4, rfl, H4⟩; obtain ⟨h4, q1, q2, q3, q4⟩ := H4.out; have HC := Lib.hid h4; have Q4 := Lib.hid q4; have hl4 := h4.to.len; clear h4 q4 H4)
  obtain ⟨x1, x2, x3, x4⟩ := HC.out.to.rd.deep_cell
  have HD := Lib.hid (HC.out.dive d (by omega))
  have hdd : (((d + 1 : Nat) : Int) - 1) = d := by omega
  have hdd' : ((d : Int) + 1 - 1) = d := by omega
  go_upto_region 8 with fail
  generalize w4.setCell ⟨r, 2, none⟩ (.int .i64 d) = wd at *
  clear x1 x2 x3 HC
  obtain ⟨xs, hx⟩ := HD.out.to.own
  have HO := Lib.hid hx
  clear hx
  go_wp2_with (at_builtin; refine wpList_pushC rfl _ _ rfl (⟨2, 0, [], [], (l4.length : Int) - 1, -1, pl⟩) (.slice none 0 0) (.slice none 0 0) _ _ HO.out.1 HO.out.2 (World.ownsRow_nil _ _ _ _) (World.ownsRow_nil _ _ _ _) HD.out.to.base (by omega) rfl rfl (by simp [cnCell]; try omega) ?_; intro v6 w6 H6)
  go_ret
  exact ⟨_, _, _, _, rfl, Lib.hid ⟨HD.out.push H6.out (by rw [pot_zero]; omega) (by rw [pot_zero]; omega) (by refine ⟨?_, ?_, ?_, ?_, ?_, ?_, ?_, ?_⟩ <;> simp <;> omega) ⟨Nodes.nil _, Nodes.nil _⟩ (fun h0 => by have := Q4.out h0; refine ⟨?_, ?_, ?_⟩ <;> simp; omega) (by show (l4.length : Int) - 1 < _; omega) (by show (-1 : Int) < _; omega), fun h0 => by have := Q4.out h0; have := P2.out this.1; simp; omega⟩⟩
set_option maxRecDepth 100000 in
set_option maxHeartbeats 4000000 in
theorem one_in {f : Nat} (HE : EitherS f) {B G r d : Nat} {v : Value} {us : List Tok} {l : List Cn} (w : World) (h : SCIn B G w r v us d 0 l) (hd : d ≤ 30) (hf : us.length ≤ f + 1) (b1 : isB us 0 [110, 111, 116] = false) (b2 : isB us 0 [91] = true) : Calls Try.prog 70 #[.pointer (some ⟨r, 0, none⟩), v] w (OutC B G r v us d 0 l w) := by
  have HC := Lib.hid (SCMid.refl h)
  have hsz := h.sz
  have hln := h.len
  rw [pot_zero] at hsz
  obtain ⟨aa, cc, rfl⟩ := h.form
  obtain ⟨c3, hr3, -⟩ := h.rd.bad_cell
  have c3 : w.cell? ⟨r, 3, none⟩ = some (.int .i64 0) := c3
  clear h
  go_enter Try.func70, Try.ntmps70
  go_upto_region 11 with (first | (go_at_call 57; refine (c_here HC.out).mono ?_; clear HC; rintro y wh ⟨pl, rfl, HHe⟩; obtain ⟨hpl, hc⟩ := HHe.out; have HC := Lib.hid hc; clear HHe hc) | (go_at_call 56; refine (c_is HC.out (x := false) (by assumption)).mono ?_; clear HC; rintro y wi ⟨rfl, HC⟩) | (go_at_call 56; refine (c_is HC.out (x := true) (by assumption)).mono ?_; clear HC; rintro y wi ⟨rfl, HC⟩) | (go_at_call 89; refine (c_open HC.out hd).mono ?_; clear HC; rintro y wo ⟨rfl, HO⟩; obtain ⟨us2, e2, h2, p1, p2⟩ := HO.out; clear HO; have HC := Lib.hid h2; have P2 := Lib.hid p2; clear h2 p2))
  have hmeas : meas e2 us2 ≤ f := by
    rcases (show e2 = 0 ∨ e2 ≠ 0 by omega) with h0 | h0
    · rw [meas_le h0]; have := P2.out h0; omega
    · rw [meas_bad _ h0]; omega
  have hpt : us2.length + pot e2 ≤ us.length := by
    rcases (show e2 = 0 ∨ 0 < e2 by omega) with h0 | h0
    · have := P2.out h0; rw [h0, pot_zero]; omega
    · rw [pot_pos h0]; omega
  have HX := Lib.hid (c_read HC.out (HE _ _ _ _ _ _ _ _ _ HC.out.to (by omega) (fun h0 => by have := P2.out h0; omega) hmeas))
  go_upto_region 13 with (first | (go_at_call 30; refine (HX.out).mono ?_; clear HC HX; rintro y w4 ⟨a4, k4, us4, e4, l4, rfl, H4⟩; obtain ⟨h4, q1, q2, q3, q4⟩ := H4.out; have HC := Lib.hid h4; have Q4 := Lib.hid q4; have hl4 := h4.to.len; clear h4 q4 H4) | (go_at_call 58; refine (c_want HC.out).mono ?_; clear HC; rintro y w5 ⟨rfl, H5⟩; obtain ⟨us5, e5, h5, g1, g2, g3⟩ := H5.out; have HC := Lib.hid h5; have Q5 := Lib.hid g3; clear h5 g3 H5))
  obtain ⟨x1, x2, x3, x4⟩ := HC.out.to.rd.deep_cell
  have HD := Lib.hid (HC.out.dive d (by omega))
  have hdd : (((d + 1 : Nat) : Int) - 1) = d := by omega
  have hdd' : ((d : Int) + 1 - 1) = d := by omega
  go_upto_region 14 with fail
  generalize w5.setCell ⟨r, 2, none⟩ (.int .i64 d) = wd at *
  clear x1 x2 x3 HC
  go_wp2_with fail
  go_ret
  exact ⟨_, _, _, _, rfl, Lib.hid ⟨HD.out, fun h0 => by have h1 := Q5.out h0; have h2 := Q4.out h1.1; have h3 := P2.out h2.1; omega⟩⟩
set_option maxRecDepth 100000 in
set_option maxHeartbeats 4000000 in
theorem one_rel {f : Nat}  {B G r d : Nat} {v : Value} {us : List Tok} {l : List Cn} (w : World) (h : SCIn B G w r v us d 0 l) (hd : d ≤ 30) (_hf : us.length ≤ f + 1) (b1 : isB us 0 [110, 111, 116] = false) (b2 : isB us 0 [91] = false) : Calls Try.prog 70 #[.pointer (some ⟨r, 0, none⟩), v] w (OutC B G r v us d 0 l w) := by
  have HC := Lib.hid (SCMid.refl h)
  have hsz := h.sz
  have hln := h.len
  rw [pot_zero] at hsz
  obtain ⟨aa, cc, rfl⟩ := h.form
  obtain ⟨c3, hr3, -⟩ := h.rd.bad_cell
  have c3 : w.cell? ⟨r, 3, none⟩ = some (.int .i64 0) := c3
  clear h
  go_enter Try.func70, Try.ntmps70
  clear _hf
  go_upto_region 17 with (first | (go_at_call 57; refine (c_here HC.out).mono ?_; clear HC; rintro y wh ⟨pl, rfl, HHe⟩; obtain ⟨hpl, hc⟩ := HHe.out; have HC := Lib.hid hc; clear HHe hc) | (go_at_call 56; refine (c_is HC.out (x := false) (by assumption)).mono ?_; clear HC; rintro y wi ⟨rfl, HC⟩) | (go_at_call 90; refine (c_expr HC.out (by omega) (fun _ => hd)).mono ?_; clear HC; rintro y wx7 ⟨ax7, cx7, us7, e7, lx7, rfl, HE7⟩; obtain ⟨h7, n7, z7, p7, o7, q7⟩ := HE7.out; have HC := Lib.hid h7; have NX7 := Lib.hid n7; have Q7 := Lib.hid q7; clear h7 n7 q7 HE7))
  obtain ⟨t, us', n, cap, p, a, hus, hu, g1, g2, g3, c0, c1, c2, c3, c4, fr, g4, hp, hn, hm, h8, hr, hG, k0, k1, k2⟩ := HC.out.to.rd.head
  simp only [maxLen] at hm
  have HEn := Lib.hid hu
  have HR := Lib.hid (fun wz => Rpr.rrel_any t.text wz)
  have hrel : Prs.relF t.text ≤ 6 := by
    by_cases h0 : Prs.relF t.text = 0
    · omega
    · exact (Rpr.rel_sg h0).2
  generalize Prs.relF t.text = R at *
  subst hus
  clear hu
  have HF := Lib.hid (fun (wz : World) (hk : Kept wh wz) => And.intro (kcell hk hr c0) (And.intro (kcell hk hr c1) (And.intro (kcell hk hG k1) (And.intro (kcell hk hr c3) (kcell hk hG k0)))))
  have hfr := Lib.hid (fun (wz : World) (hk : Kept wh wz) => HC.out.kept hk)
  rcases (show e7 ≠ 0 ∨ (e7 = 0 ∧ t.kind ≠ 4) ∨ (e7 = 0 ∧ t.kind = 4 ∧ R = 0) ∨ (e7 = 0 ∧ t.kind = 4 ∧ R ≠ 0) by omega) with f1 | ⟨f1, f2⟩ | ⟨f1, f2, f3⟩ | ⟨f1, f2, f3⟩
  case' inl => have f4 : ((e7 : Int) != 0) = true := (by rw [bne_iff_ne]; omega); have f5 := f4; have f6 := f4
  case' inr.inl => have f4 : ((e7 : Int) != 0) = false := (by rw [bne_eq_false_iff_eq]; omega); have f5 : ((t.kind : Int) != 4) = true := (by rw [bne_iff_ne]; omega); have f6 := f4
  case' inr.inr.inl => have f4 : ((e7 : Int) != 0) = false := (by rw [bne_eq_false_iff_eq]; omega); have f5 : ((t.kind : Int) != 4) = false := (by rw [bne_eq_false_iff_eq]; omega); have f6 : ((R : Int) == 0) = true := (by rw [beq_iff_eq]; omega)
  case' inr.inr.inr => have f4 : ((e7 : Int) != 0) = false := (by rw [bne_eq_false_iff_eq]; omega); have f5 : ((t.kind : Int) != 4) = false := (by rw [bne_eq_false_iff_eq]; omega); have f6 : ((R : Int) == 0) = false := (by rw [beq_eq_false_iff_ne]; omega)
  case' inl => have HX : Hid True := Lib.hid trivial
  case' inr.inl => have HX : Hid True := Lib.hid trivial; clear f1 f2
  case' inr.inr.inl => have HX : Hid True := Lib.hid trivial; clear f1 f2 f3
  case' inr.inr.inr => have HX := Lib.hid (And.intro f1 (And.intro f2 f3)); clear f1 f2 f3
  all_goals
    go_region_held3 (fun w' => w'.cell? ⟨r, 0, none⟩ = some (.slice (some ⟨G, 0, none⟩) n cap) ∧ w'.cell? ⟨r, 1, none⟩ = some (.int .i64 (p : Nat)) ∧ w'.cell? ⟨G, p * 3 + 1, none⟩ = some (.string ⟨t.text.toArray⟩))
      (first | go_keep | exact ⟨c0, c1, k1⟩ | exact ⟨b0, b1, b2⟩)
      (first | (go_at_call 91; refine (HR.out _).mono ?_; rintro y w8 ⟨rfl, k8⟩; have K8 := Lib.hid ((Kept.refl wh).drew.trans k8); obtain ⟨b0, b1, b2, b3, b4⟩ := HF.out _ K8.out; have HC8 := Lib.hid (hfr.out _ K8.out); clear k8))
  all_goals
    have hr' : r < w8.heap.size := Nat.lt_of_lt_of_le hr (Below.size K8.out)
    have hG' : G < w8.heap.size := Nat.lt_of_lt_of_le hG (Below.size K8.out)
    clear c0 c1 c2 c3 c4 k0 k1 k2 HF hfr
    go_wp2
    go_region
  all_goals try
    go_wp2_with (go_at_call 31; refine (c_fail (c := 5) (by omega) (HC8.out.kept (Kept.refl w8).drew)).mono ?_; rintro y w9 ⟨rfl, H9⟩)
    go_ret
    obtain ⟨e9, h1, h2⟩ := H9.out
    exact ⟨.slice aa l.length cc, _, e9, l, rfl, Lib.hid ⟨h2.drop, fun h => by omega⟩⟩
  obtain ⟨rfl, hk4, hR0⟩ := HX.out
  have fr9 : w8.frozen? ⟨r, 1, none⟩ = false := by
    obtain ⟨_, _, _, _, _, _, _, _, _, _, _, _, _, _, _, _, fr9, _⟩ := HC8.out.to.rd.head
    exact fr9 1
  have HD := Lib.hid ((HC8.out.next (HEn.out (by omega)) b1).kept (Kept.refl _).drew)
  simp only [List.length_cons] at p7 o7
  clear hk4 HX f4 f5 f6 HC HC8
  go_upto_region 22 with fail
  generalize (w8.setCell ⟨r, 1, none⟩ (.int .i64 ((p : Int) + 1))).drew = w10 at *
  clear b0 b1 b2 b3 b4 fr9 hr' hG'
  have HC := HD
  clear HD
  go_upto_region 23 with (go_at_call 90; refine (c_expr HC.out (by omega) (fun _ => hd)).mono ?_; clear HC; rintro y wx8 ⟨ax8, cx8, us8, e8, lx8, rfl, HE8⟩; obtain ⟨h8, n8, z8, p8, o8, q8⟩ := HE8.out; have HC := Lib.hid h8; have NX8 := Lib.hid n8; have Q8 := Lib.hid q8; clear h8 n8 q8 HE8)
  obtain ⟨xs, hx⟩ := HC.out.to.own
  have HO := Lib.hid hx
  clear hx
  rw [pot_zero] at o7 o8
  go_wp2_with (at_builtin; refine wpList_pushC rfl _ _ rfl (⟨1, R, lx7, lx8, -1, -1, pl⟩) (.slice ax7 lx7.length cx7) (.slice ax8 lx8.length cx8) _ _ HO.out.1 HO.out.2 (HC.out.rows (.slice ax7 lx7.length cx7, lx7) (by simp)) (HC.out.rows (.slice ax8 lx8.length cx8, lx8) (by simp)) HC.out.to.base (by omega) rfl rfl (by simp [cnCell]; try omega) ?_; intro v6 w6 H6)
  go_ret
  exact ⟨_, _, _, _, rfl, Lib.hid ⟨HC.out.push H6.out (by rw [pot_zero]; omega) (by rw [pot_zero]; omega) (by refine ⟨?_, ?_, ?_, ?_, ?_, ?_, ?_, ?_⟩ <;> simp <;> omega) ⟨NX7.out.bad (fun _ => rfl), NX8.out⟩ (fun h0 => ⟨by simp, by simp, fun _ => ⟨by show 1 ≤ R; omega, (Q7.out (by simp)).2.2, (Q8.out h0).2.2⟩⟩) (by show (-1 : Int) < _; omega) (by show (-1 : Int) < _; omega), fun h0 => by have h1 := Q8.out h0; simp; omega⟩⟩
theorem pot_meas {f e2 : Nat} {uc us2 : List Tok} (h1 : 1 ≤ uc.length) (hf : uc.length ≤ f) (h2 : us2.length ≤ uc.length) {P : Prop} (h3 : e2 = 0 → P ∧ us2.length + 1 = uc.length) : us2.length + pot e2 ≤ uc.length ∧ meas e2 us2 ≤ f ∧ meas e2 us2 < uc.length := by
  rcases (show e2 = 0 ∨ e2 ≠ 0 by omega) with h0 | h0
  · have := (h3 h0).2; rw [h0, pot_zero, meas_le rfl]; omega
  · rw [pot_pos (by omega), meas_bad _ h0]; omega
/-- What stands at the head of each round of both, of cond. -/
structure CwS (B G r d e : Nat) (v : Value) (w : World) (us : List Tok) (l : List Cn) (wx : World) (vc : Value) (ec : Nat) (uc : List Tok) (lc : List Cn) : Prop where
  out : SCMid B G r v w wx vc us uc d e ec l lc []
  goes : ec = 0 → uc.length < us.length ∧ l.length < lc.length
set_option maxRecDepth 100000 in
set_option maxHeartbeats 4000000 in
theorem both_step {f : Nat} (HO1 : OneS f) : BothS f := by
  intro B G r d e v us l w h hd hd2 hm
  have HX := Lib.hid (c_read (SCMid.refl h) (HO1 _ _ _ _ _ _ _ _ _ h hd hd2 hm))
  have HCH := Lib.hid HO1
  have HI := Lib.hid h
  have HM := Lib.hid (And.intro hd2 hm)
  clear h HO1 hd2 hm
  go_enter Try.func55, Try.ntmps55
  go_wp2_with (first | (go_at_call 70; refine (HX.out).mono ?_; rintro y w1 ⟨a1, k1, u1, e1, l1, rfl, H1⟩))
  go_loopg [1, 5, 6] (meas e1 u1) (fun k x _ _ wx => ∃ ec uc lc, k = meas ec uc ∧ CwS B G r d e v w us l wx x ec uc lc)
  case atStart => exact ⟨e1, u1, l1, rfl, H1.out.1, fun h0 => by have := H1.out.2.2.2.2 h0; omega⟩
  case round =>
    obtain ⟨ec, uc, lc, hk, ha⟩ := hrel
    have HA := Lib.hid ha
    obtain ⟨c3, hr3, hb10⟩ := ha.out.to.rd.bad_cell
    obtain ⟨av, cv, hvc⟩ := ha.out.to.form
    subst hvc
    have hl1 := ha.out.to.len
    have hpots := ha.out.pots
    by_cases hec : ec = 0
    case neg =>
      have hbe : ((ec : Int) == 0) = false := by rw [beq_eq_false_iff_ne]; omega
      clear ha
      go_wp2
      go_ret
      exact ⟨.slice av lc.length cv, uc, ec, lc, rfl, Lib.hid ⟨HA.out.out, HA.out.goes⟩⟩
    subst hec
    have c3 : wr.cell? ⟨r, 3, none⟩ = some (.int .i64 0) := c3
    have hl0 := (ha.goes rfl).2
    have hu0 := (ha.goes rfl).1
    have he0 := ha.out.bad rfl
    have hd30 := HM.out.1 he0
    have hmf : us.length ≤ f := by have := HM.out.2; rw [meas_le he0] at this; exact this
    clear he0
    have hq : ((lc.length : Int) - 1) = ((lc.length - 1 : Nat) : Int) := by omega
    have HC := Lib.hid ha.out
    clear ha
    rw [pot_zero] at hpots
    cases hb : isB uc 0 [97, 110, 100] with
    | false =>
      go_wp2_with (go_at_call 56; refine (c_is HC.out (x := false) hb).mono ?_; clear HC; rintro y wi ⟨rfl, HC⟩)
      go_ret
      exact ⟨.slice av lc.length cv, uc, 0, lc, rfl, Lib.hid ⟨HC.out, HA.out.goes⟩⟩
    | true =>
      generalize hm : lc.length - 1 = m at *
      have HB := Lib.hid hb
      clear hb
      go_wp2_with (first | (go_at_call 57; refine (c_here HC.out).mono ?_; clear HC; rintro y wh ⟨pl, rfl, HHe⟩; obtain ⟨hpl, hc⟩ := HHe.out; have HC := Lib.hid hc; clear HHe hc) | (go_at_call 56; refine (c_is HC.out (x := true) HB.out).mono ?_; clear HC; rintro y wi ⟨rfl, HC⟩) | (go_at_call 58; refine (c_want HC.out).mono ?_; clear HC; rintro y w5 ⟨rfl, H5⟩; obtain ⟨us2, e2, h5, g1, g2, g3⟩ := H5.out; have HC := Lib.hid h5; have G3 := Lib.hid g3; clear h5 g2 g3 H5; have hp2 : Hid (us2.length + pot e2 ≤ uc.length ∧ meas e2 us2 ≤ f ∧ meas e2 us2 < uc.length) := Lib.hid (pot_meas hl1.1 (by omega) g1 G3.out)) | (go_at_call 70; refine (c_read HC.out (HCH.out _ _ _ _ _ _ _ _ _ HC.out.to hd (fun _ => hd30) hp2.out.2.1)).mono ?_; clear HC; rintro y w4 ⟨a4, k4, us4, e4, l4, rfl, H4⟩; obtain ⟨h4, q1, q2, q3, q4⟩ := H4.out; have HC := Lib.hid h4; have Q4 := Lib.hid q4; have hl4 := h4.to.len; clear h4 q4 H4; obtain ⟨xs4, hx4⟩ := HC.out.to.own; have HO := Lib.hid hx4; clear hx4) | (at_builtin; refine wpList_pushC rfl _ _ rfl (⟨3, 0, [], [], m, (l4.length : Int) - 1, pl⟩) (.slice none 0 0) (.slice none 0 0) _ _ HO.out.1 HO.out.2 (World.ownsRow_nil _ _ _ _) (World.ownsRow_nil _ _ _ _) HC.out.to.base (by omega) rfl rfl (by simp [cnCell]; try omega) ?_; intro v6 w6 H6))
      obtain ⟨r1, r2, r3⟩ := hp2.out
      go_roundg (meas e4 us4)
      case measure =>
        rw [hk, meas_le rfl]
        rcases (show e4 = 0 ∨ e4 ≠ 0 by omega) with h0 | h0
        · rw [meas_le h0]; have := Q4.out h0; omega
        · rw [meas_bad _ h0]; omega
      case rel => exact ⟨e4, us4, _, rfl, HC.out.push H6.out (by omega) HI.out.sz (by refine ⟨?_, ?_, ?_, ?_, ?_, ?_, ?_, ?_⟩ <;> simp <;> omega) ⟨Nodes.nil _, Nodes.nil _⟩ (fun h0 => ⟨fun _ => by show (0 : Int) ≤ (m : Nat); omega, fun _ => by show (0 : Int) ≤ (l4.length : Int) - 1; omega, fun h => by simp at h⟩) (by show ((m : Nat) : Int) < _; omega) (by show (l4.length : Int) - 1 < _; omega), fun h0 => ⟨by omega, by simp; omega⟩⟩
set_option maxRecDepth 100000 in
set_option maxHeartbeats 4000000 in
theorem cond_step {f : Nat} (HO1 : BothS f) : EitherS f := by
  intro B G r d e v us l w h hd hd2 hm
  have HX := Lib.hid (c_read (SCMid.refl h) (HO1 _ _ _ _ _ _ _ _ _ h hd hd2 hm))
  have HCH := Lib.hid HO1
  have HI := Lib.hid h
  have HM := Lib.hid (And.intro hd2 hm)
  clear h HO1 hd2 hm
  go_enter Try.func30, Try.ntmps30
  go_wp2_with (first | (go_at_call 55; refine (HX.out).mono ?_; rintro y w1 ⟨a1, k1, u1, e1, l1, rfl, H1⟩))
  go_loopg [1, 5, 6] (meas e1 u1) (fun k x _ _ wx => ∃ ec uc lc, k = meas ec uc ∧ CwS B G r d e v w us l wx x ec uc lc)
  case atStart => exact ⟨e1, u1, l1, rfl, H1.out.1, fun h0 => by have := H1.out.2.2.2.2 h0; omega⟩
  case round =>
    obtain ⟨ec, uc, lc, hk, ha⟩ := hrel
    have HA := Lib.hid ha
    obtain ⟨c3, hr3, hb10⟩ := ha.out.to.rd.bad_cell
    obtain ⟨av, cv, hvc⟩ := ha.out.to.form
    subst hvc
    have hl1 := ha.out.to.len
    have hpots := ha.out.pots
    by_cases hec : ec = 0
    case neg =>
      have hbe : ((ec : Int) == 0) = false := by rw [beq_eq_false_iff_ne]; omega
      clear ha
      go_wp2
      go_ret
      exact ⟨.slice av lc.length cv, uc, ec, lc, rfl, Lib.hid ⟨HA.out.out, HA.out.goes⟩⟩
    subst hec
    have c3 : wr.cell? ⟨r, 3, none⟩ = some (.int .i64 0) := c3
    have hl0 := (ha.goes rfl).2
    have hu0 := (ha.goes rfl).1
    have he0 := ha.out.bad rfl
    have hd30 := HM.out.1 he0
    have hmf : us.length ≤ f := by have := HM.out.2; rw [meas_le he0] at this; exact this
    clear he0
    have hq : ((lc.length : Int) - 1) = ((lc.length - 1 : Nat) : Int) := by omega
    have HC := Lib.hid ha.out
    clear ha
    rw [pot_zero] at hpots
    cases hb : isB uc 0 [111, 114] with
    | false =>
      go_wp2_with (go_at_call 56; refine (c_is HC.out (x := false) hb).mono ?_; clear HC; rintro y wi ⟨rfl, HC⟩)
      go_ret
      exact ⟨.slice av lc.length cv, uc, 0, lc, rfl, Lib.hid ⟨HC.out, HA.out.goes⟩⟩
    | true =>
      generalize hm : lc.length - 1 = m at *
      have HB := Lib.hid hb
      clear hb
      go_wp2_with (first | (go_at_call 57; refine (c_here HC.out).mono ?_; clear HC; rintro y wh ⟨pl, rfl, HHe⟩; obtain ⟨hpl, hc⟩ := HHe.out; have HC := Lib.hid hc; clear HHe hc) | (go_at_call 56; refine (c_is HC.out (x := true) HB.out).mono ?_; clear HC; rintro y wi ⟨rfl, HC⟩) | (go_at_call 58; refine (c_want HC.out).mono ?_; clear HC; rintro y w5 ⟨rfl, H5⟩; obtain ⟨us2, e2, h5, g1, g2, g3⟩ := H5.out; have HC := Lib.hid h5; have G3 := Lib.hid g3; clear h5 g2 g3 H5; have hp2 : Hid (us2.length + pot e2 ≤ uc.length ∧ meas e2 us2 ≤ f ∧ meas e2 us2 < uc.length) := Lib.hid (pot_meas hl1.1 (by omega) g1 G3.out)) | (go_at_call 55; refine (c_read HC.out (HCH.out _ _ _ _ _ _ _ _ _ HC.out.to hd (fun _ => hd30) hp2.out.2.1)).mono ?_; clear HC; rintro y w4 ⟨a4, k4, us4, e4, l4, rfl, H4⟩; obtain ⟨h4, q1, q2, q3, q4⟩ := H4.out; have HC := Lib.hid h4; have Q4 := Lib.hid q4; have hl4 := h4.to.len; clear h4 q4 H4; obtain ⟨xs4, hx4⟩ := HC.out.to.own; have HO := Lib.hid hx4; clear hx4) | (at_builtin; refine wpList_pushC rfl _ _ rfl (⟨4, 0, [], [], m, (l4.length : Int) - 1, pl⟩) (.slice none 0 0) (.slice none 0 0) _ _ HO.out.1 HO.out.2 (World.ownsRow_nil _ _ _ _) (World.ownsRow_nil _ _ _ _) HC.out.to.base (by omega) rfl rfl (by simp [cnCell]; try omega) ?_; intro v6 w6 H6))
      obtain ⟨r1, r2, r3⟩ := hp2.out
      go_roundg (meas e4 us4)
      case measure =>
        rw [hk, meas_le rfl]
        rcases (show e4 = 0 ∨ e4 ≠ 0 by omega) with h0 | h0
        · rw [meas_le h0]; have := Q4.out h0; omega
        · rw [meas_bad _ h0]; omega
      case rel => exact ⟨e4, us4, _, rfl, HC.out.push H6.out (by omega) HI.out.sz (by refine ⟨?_, ?_, ?_, ?_, ?_, ?_, ?_, ?_⟩ <;> simp <;> omega) ⟨Nodes.nil _, Nodes.nil _⟩ (fun h0 => ⟨fun _ => by show (0 : Int) ≤ (m : Nat); omega, fun _ => by show (0 : Int) ≤ (l4.length : Int) - 1; omega, fun h => by simp at h⟩) (by show ((m : Nat) : Int) < _; omega) (by show (l4.length : Int) - 1 < _; omega), fun h0 => ⟨by omega, by simp; omega⟩⟩
theorem one_step {f : Nat} (HO1 : OneS f) (HE : EitherS f) : OneS (f + 1) := by
  intro B G r d e v us l w h hd hd2 hm
  by_cases he : e = 0
  case neg => exact one_bad w h he
  subst he
  replace hd2 := hd2 rfl
  rw [meas_le rfl] at hm
  cases b1 : isB us 0 [110, 111, 116] with
  | true => exact one_not HO1 w h hd2 hm b1
  | false =>
    cases b2 : isB us 0 [91] with
    | true => exact one_in HE w h hd2 hm b1 b2
    | false => exact one_rel (f := f) w h hd2 hm b1 b2
theorem creads (f : Nat) : OneS f ∧ EitherS f := by
  have up : ∀ f, OneS f → EitherS f := fun f h => cond_step (both_step h)
  induction f with
  | zero =>
    have H : OneS 0 := by
      intro B G r d e v us l w h hd hd2 hm
      by_cases he : e = 0
      · rw [meas_le he] at hm
        have := h.len.1
        omega
      · exact one_bad w h he
    exact ⟨H, up 0 H⟩
  | succ f ih =>
    have H := one_step ih.1 ih.2
    exact ⟨H, up _ H⟩
/-- A condition, whatever is left to read. -/
theorem cond_any {B G r d e : Nat} {v : Value} {us : List Tok} {l : List Cn} (w : World) (h : SCIn B G w r v us d e l) (hd : d ≤ 31) (hd2 : e = 0 → d ≤ 30) :
    Calls Try.prog 30 #[.pointer (some ⟨r, 0, none⟩), v] w (OutC B G r v us d e l w) :=
  (creads (meas e us)).2 _ _ _ _ _ _ _ _ w h hd hd2 (Nat.le_refl _)
end Go.Proofs.Ytnlkcjbnmkpnhaa.Srd
namespace Go.Proofs.Ytnlkcjbnmkpnhaa.Srd
open Go.RowKit
open Lex (Tok Sane cellsOf)
open Prs (Ex Cn)
open Rpr (Chg box_cell box_froz ne_of_ty exCells own_stay own_at own_form CnCells CnOwn tok_get)

theorem sr_of {w1 : World} {T : List Tok} {cap G B : Nat} {cur : Array Value} (hg : Lex.Ends T) (hlen : T.length ≤ 8193) (hG : w1.heap[G]? = some (.cells cur 87 (0, 0))) (hcap : T.length ≤ cap) (hm : cap ≤ maxLen) (htk : cur.toList.take (T.length * 3) = cellsOf T) (hB : B ≤ w1.heap.size) :
    SR B G (w1.alloc (.cells #[.slice (some ⟨G, 0, none⟩) T.length cap, .int .i64 0, .int .i64 0, .int .i64 0, .int .i64 0] 84)) w1.heap.size T 0 0 := by
  refine ⟨⟨T.length, cap, 0, 0, cur, heap_alloc_new _ _, (Chg.of_kept (S := fun _ => False) ((Kept.refl w1).alloc _)).heap hG id, by simp, hcap, hm, hlen, fun i hi => ?_⟩, hB, by omega, by omega, hg⟩
  have hcell : ∀ (j : Nat) (u : Value), (cellsOf T)[j]? = some u → cur[j]? = some u := by
    intro j u hj
    rw [← htk, List.getElem?_take] at hj
    split at hj
    · simpa using hj
    · cases hj
  obtain ⟨a, b, c⟩ := tok_get T i hi
  simp only [Nat.zero_add]
  exact ⟨hcell _ _ a, hcell _ _ b, hcell _ _ c⟩
/-- What Cond tells of any text. -/
def CondOut (w w' : World) (x : Ending) : Prop := ∃ (v : Value) (c a : Nat) (l : List Cn), x = .returned (.tuple #[v, .int .i64 c, .int .i64 a]) ∧ Kept w w' ∧ CnOwn w' w.heap.size v l ∧ CNodes 0 l ∧ l.length ≤ 8193 ∧ (c ≠ 0 → l = [] ∧ v = .slice none 0 0)
theorem CondOut.bad {w w' : World} {c a : Nat} {x y : Int} (hk : Kept w w') (h : x = c ∧ y = a) : CondOut w w' (.returned (.tuple #[.slice none 0 0, .int .i64 x, .int .i64 y])) := by
  obtain ⟨rfl, rfl⟩ := h
  exact ⟨_, c, a, [], rfl, hk, ⟨[], World.ownsRow_nil _ _ _ _, rfl⟩, CNodes.nil 0, by simp, fun _ => ⟨rfl, rfl⟩⟩
set_option maxRecDepth 100000 in
set_option maxHeartbeats 4000000 in
theorem Cond_safe (s : ByteArray) (w : World) (hs : s.size ≤ 8192) : Calls Try.prog 13 #[.string s] w fun x w' => CondOut w w' x := by
  have HL := Lib.hid (Lex.rLex_safe s w hs)
  go_enter Try.func13, Try.ntmps13
  go_upto_region 2 with (go_at_call 29; refine (HL.out).mono ?_; clear HL; rintro y w1 h1; rcases h1 with ⟨v, c, a, rfl, g1, g2, k1⟩ | ⟨v, T, rfl, he, ht, H1⟩)
  · have hb : ((c : Int) != 0) = true := by rw [bne_iff_ne]; omega
    have K1 := Lib.hid k1
    clear k1
    go_wp2
    go_ret3
    exact CondOut.bad (c := c) (a := a) K1.out ⟨rfl, rfl⟩
  · have h8 : T.length ≤ 8193 := by omega
    have hE : 0 < T.length := by obtain ⟨ts, p, rfl, _⟩ := he; simp
    obtain ⟨g, cap, cur, hv, hg3, hG, hcap, hm, -, htk⟩ : ∃ g cap cur, v = .slice (some ⟨g, 0, none⟩) T.length cap ∧ w.heap.size ≤ g ∧ w1.heap[g]? = some (.cells cur 87 (0, 0)) ∧ T.length ≤ cap ∧ cap ≤ maxLen ∧ cur.size = cap * 3 ∧ cur.toList.take (T.length * 3) = cellsOf T := by
      rcases H1.out.2.2 with ⟨_, hn⟩ | h
      · omega
      · exact h
    subst hv
    have HR := Lib.hid (sr_of (B := w.heap.size) he h8 hG hcap hm htk H1.out.1.size)
    have K1 := Lib.hid (H1.out.1.alloc (.cells #[.slice (some ⟨g, 0, none⟩) T.length cap, .int .i64 0, .int .i64 0, .int .i64 0, .int .i64 0] 84))
    have hsz := H1.out.1.size
    clear hg3 hG hcap hm htk H1 he
    go_upto_region 5 with fail
    generalize w1.alloc (.cells #[.slice (some ⟨g, 0, none⟩) T.length cap, .int .i64 0, .int .i64 0, .int .i64 0, .int .i64 0] 84) = w2 at *
    have HI : SCIn w.heap.size g w2 w1.heap.size (.slice none 0 0) T 0 0 [] := ⟨HR.out, ⟨[], World.ownsRow_nil _ _ _ _, rfl⟩, by rw [pot_zero]; simp; omega, CNodes.nil _⟩
    have HX := Lib.hid (c_read (SCMid.refl HI) (cond_any w2 HI (by omega) (fun _ => by omega)))
    clear HI
    go_upto_region 6 with (go_at_call 30; refine (HX.out).mono ?_; rintro y w3 ⟨a3, b3, us3, e3, l3, rfl, H3⟩)
    have hK : Kept w w3 := ((Chg.of_kept (S := fun k => k = w1.heap.size) K1.out).then (H3.out.1.chg.mono fun i _ hs => by
      rcases hs with hs | hs
      · exact hs
      · simp [Value.ownBlock] at hs)).kept fun i hi e => by omega
    have HK := Lib.hid hK
    clear hK
    have hl3 := H3.out.1.to.len
    have own : ∀ w', Kept w3 w' → CnOwn w' w.heap.size (.slice a3 l3.length b3) l3 := fun w' hk => by
      obtain ⟨xs, x1, x2⟩ := H3.out.1.to.own
      have hd : Chg (fun _ => False) w3 w' := Chg.of_kept hk
      exact ⟨xs, own_stay x1 hd (fun _ _ => id), x2.chg hd (fun _ _ _ => id)⟩
    have OW := Lib.hid own
    clear own
    have HF : Hid (∀ w', SR w.heap.size g w' w1.heap.size us3 0 e3 → Calls Try.prog 31 #[.pointer (some ⟨w1.heap.size, 0, none⟩), .int .i64 5] w' fun x w'' => x = .returned (.tuple #[]) ∧ Hid (∃ e', 0 < e' ∧ SR w.heap.size g w'' w1.heap.size us3 0 e' ∧ Chg (fun k => k = w1.heap.size) w' w'')) := Lib.hid fun w' h' => fail_any w' 5 (by omega) h'
    obtain ⟨t, us', n, cp, p, a, hus, hu, g1, g2, g3, c0, c1, c2, c3, c4, fr, g4, hp, hn, hm, h8', hr, hG, k0, k1, k2⟩ := H3.out.1.to.rd.head
    simp only [maxLen] at hm
    generalize w1.heap.size = rb at *
    have finb : ∀ (w5 : World) (e5 : Nat), 0 < e5 → Kept w w5 → SR w.heap.size g w5 rb us3 0 e5 → ∃ a5 : Nat, w5.cell? ⟨rb, 3, none⟩ = some (.int .i64 e5) ∧ w5.cell? ⟨rb, 4, none⟩ = some (.int .i64 a5) ∧ rb < w5.heap.size := fun w5 e5 _ _ h5 => by
      obtain ⟨_, _, _, _, _, a5, _, _, _, _, _, _, _, _, q3, q4, _, _, _, _, _, _, q5, _⟩ := h5.head
      exact ⟨a5, q3, q4, q5⟩
    have FB := Lib.hid finb
    clear finb
    rcases (show 0 < e3 ∨ (e3 = 0 ∧ t.kind = 0) ∨ (e3 = 0 ∧ t.kind ≠ 0) by omega) with f1 | ⟨f1, f2⟩ | ⟨f1, f2⟩
    case' inl => have f3 : ((e3 : Int) == 0) = false := (by rw [beq_eq_false_iff_ne]; omega); have f4 : ((e3 : Int) != 0) = true := (by rw [bne_iff_ne]; omega); have f5 := f4
    case' inr.inl => have f3 : ((e3 : Int) == 0) = true := (by rw [beq_iff_eq]; omega); have f4 : ((t.kind : Int) != 0) = false := (by rw [bne_eq_false_iff_eq]; omega); have f5 : ((e3 : Int) != 0) = false := (by rw [bne_eq_false_iff_eq]; omega)
    case' inr.inr => have f3 : ((e3 : Int) == 0) = true := (by rw [beq_iff_eq]; omega); have f4 : ((t.kind : Int) != 0) = true := (by rw [bne_iff_ne]; omega); have f5 := f4
    case' inl => have FF := Lib.hid f1; clear f1
    case' inr.inl => have FF := Lib.hid f1; clear f1 f2
    case' inr.inr => have FF := Lib.hid f1; clear f1 f2
    · go_wp2
      go_region
      go_wp2_with (go_at_call 31; refine (HF.out _ (H3.out.1.to.rd.kept (Kept.refl w3).drew)).mono ?_; rintro y w5 ⟨rfl, H5⟩; obtain ⟨e5, r1, r2, r3⟩ := H5.out; have K5 : Hid (Kept w w5) := Lib.hid (((Chg.of_kept (S := fun k => k = rb) HK.out.drew).then r3).kept fun i hi e => by omega); obtain ⟨a5, q3, q4, q5⟩ := FB.out w5 e5 r1 K5.out r2; have f6 : ((e5 : Int) != 0) = true := (by rw [bne_iff_ne]; omega); clear r2 r3 H5 FB HF)
      go_region
      all_goals
        go_wp2
        go_ret3
        exact CondOut.bad (c := e5) (a := a5) (by first | exact K5.out.drew | exact K5.out) ⟨rfl, rfl⟩
    · go_wp2
      go_region
      go_wp2
      go_ret3
      exact ⟨_, 0, 0, l3, rfl, HK.out.drew, OW.out _ ((Kept.refl w3).drew), by have := H3.out.1.to.nodes; rw [FF.out] at this; exact this, hl3.2.1, fun h => absurd rfl h⟩
    · go_wp2
      go_region
      go_wp2
      go_region
      all_goals
        go_wp2
        go_ret3
        exact CondOut.bad (c := e3) (a := a) (by first | exact HK.out.drew | exact HK.out.drew.drew) ⟨rfl, rfl⟩
end Go.Proofs.Ytnlkcjbnmkpnhaa.Srd
