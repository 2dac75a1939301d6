/-
  Contracts of package lex's number, scan and Number, in a world in which the two package errors lie as the program lays them. Condition: a length below 2^62.
-/
import Derived.Test.YtoafcpbpnkfhoaaGreatDoorLexF
namespace Go.Proofs.YtoafcpbpnkfhoaaGreatDoor.Lex
open Go.RowKit

def typN (u : Bool) : Int := if u then 6 else 5
def perr (pL pW : Addr) (b : Bool) : Addr := if b then pL else pW
theorem read_ok (s : ByteArray) (w : World) (pL pW : Addr) (hL : Laid w pL pW) (hl : s.size ≤ 4611686018427387904) (v : Nat) (u : Bool) (h : readF (lst s) = .ok v u) :
    Calls Tryz.prog 59 #[.string s] w fun e w' => e = .returned (.tuple #[.int .i64 v, .int .i64 (typN u), .nilIface]) ∧ ∃ n, w' = w.drewN n :=
  (read_any s w pL pW hL hl).mono fun _ _ ⟨h1, h2⟩ => ⟨by rw [h1, h]; rfl, h2⟩
theorem read_bad (s : ByteArray) (w : World) (pL pW : Addr) (hL : Laid w pL pW) (hl : s.size ≤ 4611686018427387904) (b : Bool) (h : readF (lst s) = .bad b) :
    Calls Tryz.prog 59 #[.string s] w fun e w' => e = .returned (.tuple #[.int .i64 0, .int .i64 0, .iface 155 (.pointer (some (perr pL pW b)))]) ∧ ∃ n, w' = w.drewN n :=
  (read_any s w pL pW hL hl).mono fun _ _ ⟨h1, h2⟩ => ⟨by rw [h1, h]; rfl, h2⟩
theorem prefix_b (s : ByteArray) (w : World) (hl : s.size ≤ 4611686018427387904) (b : Bool) (h : decide ((lst s).head? = some 117) = b) : Calls Tryz.prog 58 #[.string s, .string ⟨#[117]⟩] w fun e w' => e = .returned (.bool b) ∧ w = w' :=
  (hasPrefix_u s w hl).mono fun _ _ ⟨h1, h2⟩ => ⟨by rw [h1, h], h2⟩
theorem drew_drew (w : World) (a b : Nat) : ∃ n, (w.drewN a).drewN b = w.drewN n := ⟨a + b, by rw [World.drewN_drewN]⟩

theorem span_digit_b (s : ByteArray) (w : World) (hl : s.size ≤ 4611686018427387904) (n : Nat) (h : spanF isDigitF (lst s) = n) : Calls Tryz.prog 32 #[.string s, .func (.func 36) #[] #[]] w fun e w' => e = .returned (.int .i64 n) ∧ w = w' :=
  (span_isDigit s w hl).mono fun _ _ ⟨h1, h2⟩ => ⟨by rw [h1, h], h2⟩

set_option maxHeartbeats 1000000 in
theorem number_any (s : ByteArray) (w : World) (pL pW : Addr) (hL : Laid w pL pW) (hl : s.size ≤ 4611686018427387904) :
    Calls Tryz.prog 37 #[.string s] w fun e w' => e = .returned (scV pL pW (numberF (lst s))) ∧ ∃ n, w' = w.drewN n := by
  have hsl := span_le' isDigitF s
  have hword := hL.word
  have hnl : numLen (lst s) ≤ s.size := numLen_le (lst s)
  have Hn : Hid (numberF (lst s) = match readF (lst (s.extract 0 (numLen (lst s)))) with
    | .bad b => .bad b
    | .ok _ _ => if 0 < spanF inWordF (lst (s.extract (numLen (lst s)) s.size)) then .bad false else .tok 2 (numLen (lst s))) := Lib.hid (by rw [lst_to, lst_from]; rfl)
  cases hp : decide ((lst (s.extract (spanF isDigitF (lst s)) s.size)).head? = some 117)
  case' false =>
    have hN : numLen (lst s) = spanF isDigitF (lst s) := by
      unfold numLen; rw [if_neg]; rw [← lst_from]; exact of_decide_eq_false hp
  case' true =>
    have hN : numLen (lst s) = spanF isDigitF (lst s) + 1 := by
      unfold numLen; rw [if_pos]; rw [← lst_from]; exact of_decide_eq_true hp
  all_goals
    rw [hN] at Hn hnl
    clear hN
    generalize hS : spanF isDigitF (lst s) = N0 at *
    have HS := Lib.hid hS
    clear hS
  case false =>
    have Hp := Lib.hid hp
    clear hp
    cases hr : readF (lst (s.extract 0 N0)) with
    | bad b =>
      rw [Hn.out, hr]; clear Hn
      have Hr := Lib.hid hr
      clear hr
      go_enter Tryz.func37, Tryz.ntmps37
      go_wp2_with (first | (go_at_call 58; refine (prefix_b _ _ (by simp; omega) _ Hp.out).mono ?_; rintro e w' ⟨rfl, rfl⟩) | (go_at_call 59; refine (read_bad _ _ pL pW hL (by simp; omega) _ Hr.out).mono ?_; rintro e w' ⟨rfl, nd, rfl⟩) | (go_at_call 32; (first | with_reducible refine (span_digit_b _ _ (by omega) _ HS.out).mono ?_ | with_reducible refine (span_inWord _ _ (by simp; omega)).mono ?_); rintro e w' ⟨rfl, rfl⟩))
      go_ret3
      exact ⟨rfl, _, rfl⟩
    | ok v u =>
      have Hn1 := Lib.hid (Hn.out.trans (by rw [hr]))
      clear Hn
      have Hr := Lib.hid hr
      clear hr
      have hsw := span_le' inWordF (s.extract N0 s.size)
      have hz : (s.extract N0 s.size).size = s.size - N0 := by simp
      rw [hz] at hsw; clear hz
      by_cases h0 : 0 < spanF inWordF (lst (s.extract N0 s.size))
      · rw [Hn1.out.trans (if_pos h0)]
        clear Hn1
        go_enter Tryz.func37, Tryz.ntmps37
        go_wp2_with (first | (go_at_call 58; refine (prefix_b _ _ (by simp; omega) _ Hp.out).mono ?_; rintro e w' ⟨rfl, rfl⟩) | (go_at_call 59; refine (read_ok _ _ pL pW hL (by simp; omega) _ _ Hr.out).mono ?_; rintro e w' ⟨rfl, nd, rfl⟩) | (go_at_call 32; (first | with_reducible refine (span_digit_b _ _ (by omega) _ HS.out).mono ?_ | with_reducible refine (span_inWord _ _ (by simp; omega)).mono ?_); rintro e w' ⟨rfl, rfl⟩))
        go_quiet (fail)
        go_wp2
        go_ret3
        exact ⟨rfl, drew_drew _ _ _⟩
      · rw [Hn1.out.trans (if_neg h0)]
        clear Hn1
        go_enter Tryz.func37, Tryz.ntmps37
        go_wp2_with (first | (go_at_call 58; refine (prefix_b _ _ (by simp; omega) _ Hp.out).mono ?_; rintro e w' ⟨rfl, rfl⟩) | (go_at_call 59; refine (read_ok _ _ pL pW hL (by simp; omega) _ _ Hr.out).mono ?_; rintro e w' ⟨rfl, nd, rfl⟩) | (go_at_call 32; (first | with_reducible refine (span_digit_b _ _ (by omega) _ HS.out).mono ?_ | with_reducible refine (span_inWord _ _ (by simp; omega)).mono ?_); rintro e w' ⟨rfl, rfl⟩))
        go_ret3
        exact ⟨rfl, _, rfl⟩
  case true =>
    have Hp := Lib.hid hp
    clear hp
    cases hr : readF (lst (s.extract 0 (N0 + 1))) with
    | bad b =>
      rw [Hn.out, hr]; clear Hn
      have Hr := Lib.hid hr
      clear hr
      go_enter Tryz.func37, Tryz.ntmps37
      go_wp2_with (first | (go_at_call 58; refine (prefix_b _ _ (by simp; omega) _ Hp.out).mono ?_; rintro e w' ⟨rfl, rfl⟩) | (go_at_call 59; refine (read_bad _ _ pL pW hL (by simp; omega) _ Hr.out).mono ?_; rintro e w' ⟨rfl, nd, rfl⟩) | (go_at_call 32; (first | with_reducible refine (span_digit_b _ _ (by omega) _ HS.out).mono ?_ | with_reducible refine (span_inWord _ _ (by simp; omega)).mono ?_); rintro e w' ⟨rfl, rfl⟩))
      go_ret3
      exact ⟨rfl, _, rfl⟩
    | ok v u =>
      have Hn1 := Lib.hid (Hn.out.trans (by rw [hr]))
      clear Hn
      have Hr := Lib.hid hr
      clear hr
      have hsw := span_le' inWordF (s.extract (N0 + 1) s.size)
      have hz : (s.extract (N0 + 1) s.size).size = s.size - (N0 + 1) := by simp
      rw [hz] at hsw; clear hz
      by_cases h0 : 0 < spanF inWordF (lst (s.extract (N0 + 1) s.size))
      · rw [Hn1.out.trans (if_pos h0)]
        clear Hn1
        go_enter Tryz.func37, Tryz.ntmps37
        go_wp2_with (first | (go_at_call 58; refine (prefix_b _ _ (by simp; omega) _ Hp.out).mono ?_; rintro e w' ⟨rfl, rfl⟩) | (go_at_call 59; refine (read_ok _ _ pL pW hL (by simp; omega) _ _ Hr.out).mono ?_; rintro e w' ⟨rfl, nd, rfl⟩) | (go_at_call 32; (first | with_reducible refine (span_digit_b _ _ (by omega) _ HS.out).mono ?_ | with_reducible refine (span_inWord _ _ (by simp; omega)).mono ?_); rintro e w' ⟨rfl, rfl⟩))
        go_quiet (fail)
        go_wp2
        go_ret3
        exact ⟨rfl, drew_drew _ _ _⟩
      · rw [Hn1.out.trans (if_neg h0)]
        clear Hn1
        go_enter Tryz.func37, Tryz.ntmps37
        go_wp2_with (first | (go_at_call 58; refine (prefix_b _ _ (by simp; omega) _ Hp.out).mono ?_; rintro e w' ⟨rfl, rfl⟩) | (go_at_call 59; refine (read_ok _ _ pL pW hL (by simp; omega) _ _ Hr.out).mono ?_; rintro e w' ⟨rfl, nd, rfl⟩) | (go_at_call 32; (first | with_reducible refine (span_digit_b _ _ (by omega) _ HS.out).mono ?_ | with_reducible refine (span_inWord _ _ (by simp; omega)).mono ?_); rintro e w' ⟨rfl, rfl⟩))
        go_ret3
        exact ⟨rfl, _, rfl⟩

theorem scan_get {l : List UInt8} (h : 0 < l.length) : scanF l = if isLetterF l[0] then wordF l else if isDigitF l[0] then numberF l else if 0 < signF l then .tok 4 (signF l) else .bad false := by
  cases l with
  | nil => simp at h
  | cons c l => rfl
theorem scan_cons {s : ByteArray} (h : 0 < s.size) : scanF (lst s) = if isLetterF s[0] then wordF (lst s) else if isDigitF s[0] then numberF (lst s) else if 0 < signF (lst s) then .tok 4 (signF (lst s)) else .bad false := scan_get (l := lst s) h
theorem word_b (s : ByteArray) (w : World) (pL pW : Addr) (hL : Laid w pL pW) (hl : s.size ≤ 4611686018427387904) :
    Calls Tryz.prog 35 #[.string s] w fun e w' => ∃ a b c : Value, e = .returned (.tuple #[a, b, c]) ∧ scV pL pW (wordF (lst s)) = .tuple #[a, b, c] ∧ ∃ n, w' = w.drewN n :=
  (word_any s w pL pW hL hl).mono fun _ _ ⟨h1, h2⟩ => by
    cases hw : wordF (lst s) with
    | tok k n => exact ⟨_, _, _, by rw [h1, hw]; rfl, rfl, h2⟩
    | bad b => exact ⟨_, _, _, by rw [h1, hw]; rfl, rfl, h2⟩
theorem number_b (s : ByteArray) (w : World) (pL pW : Addr) (hL : Laid w pL pW) (hl : s.size ≤ 4611686018427387904) :
    Calls Tryz.prog 37 #[.string s] w fun e w' => ∃ a b c : Value, e = .returned (.tuple #[a, b, c]) ∧ scV pL pW (numberF (lst s)) = .tuple #[a, b, c] ∧ ∃ n, w' = w.drewN n :=
  (number_any s w pL pW hL hl).mono fun _ _ ⟨h1, h2⟩ => by
    cases hw : numberF (lst s) with
    | tok k n => exact ⟨_, _, _, by rw [h1, hw]; rfl, rfl, h2⟩
    | bad b => exact ⟨_, _, _, by rw [h1, hw]; rfl, rfl, h2⟩
theorem letter_b (c : UInt8) (w : World) (b : Bool) (h : isLetterF c = b) : Calls Tryz.prog 34 #[.int .u8 c.toNat] w fun e w' => e = .returned (.bool b) ∧ w = w' :=
  (isLetter_any c w).mono fun _ _ ⟨h1, h2⟩ => ⟨by rw [h1, h], h2⟩
theorem digit_b (c : UInt8) (w : World) (b : Bool) (h : isDigitF c = b) : Calls Tryz.prog 36 #[.int .u8 c.toNat] w fun e w' => e = .returned (.bool b) ∧ w = w' :=
  (isDigit_any c w).mono fun _ _ ⟨h1, h2⟩ => ⟨by rw [h1, h], h2⟩

set_option maxHeartbeats 1000000 in
theorem scan_any (s : ByteArray) (w : World) (pL pW : Addr) (hL : Laid w pL pW) (hl : s.size ≤ 4611686018427387904) :
    Calls Tryz.prog 20 #[.string s] w fun e w' => e = .returned (scV pL pW (scanF (lst s))) ∧ ∃ n, w' = w.drewN n := by
  have hword := hL.word
  by_cases h0 : s.size = 0
  · have hn : lst s = [] := List.eq_nil_of_length_eq_zero (by rw [lst_length]; exact h0)
    have hnl : s.toList = [] := by rw [lst_toList]; exact hn
    rw [hn]
    clear hn h0
    go_enter Tryz.func20, Tryz.ntmps20
    go_wp2
    go_ret3
    exact ⟨rfl, 0, rfl⟩
  · have hpos : 0 < s.size := by omega
    have hnl : (s.toList == []) = false := by
      rw [lst_toList]; simp; intro e; exact h0 (by rw [← lst_length, e]; rfl)
    rw [scan_cons hpos]
    clear h0
    cases h1 : isLetterF s[0]
    · rw [if_neg (by simp)]
      cases h2 : isDigitF s[0]
      · rw [if_neg (by simp)]
        have H1 := Lib.hid h1
        have H2 := Lib.hid h2
        clear h1 h2
        have hsg := (sign_le (lst s)).2
        by_cases h3 : 0 < signF (lst s)
        · rw [if_pos h3]
          go_enter Tryz.func20, Tryz.ntmps20
          go_wp2_with (first | (go_at_call 34; refine (letter_b _ _ _ H1.out).mono ?_; rintro e w' ⟨rfl, rfl⟩) | (go_at_call 36; refine (digit_b _ _ _ H2.out).mono ?_; rintro e w' ⟨rfl, rfl⟩) | (go_at_call 38; refine (sign_any _ _ hl hpos).mono ?_; rintro e w' ⟨rfl, rfl⟩))
          go_ret3
          exact ⟨rfl, 0, rfl⟩
        · rw [if_neg h3]
          go_enter Tryz.func20, Tryz.ntmps20
          go_wp2_with (first | (go_at_call 34; refine (letter_b _ _ _ H1.out).mono ?_; rintro e w' ⟨rfl, rfl⟩) | (go_at_call 36; refine (digit_b _ _ _ H2.out).mono ?_; rintro e w' ⟨rfl, rfl⟩) | (go_at_call 38; refine (sign_any _ _ hl hpos).mono ?_; rintro e w' ⟨rfl, rfl⟩))
          go_quiet (fail)
          go_wp2
          go_ret3
          exact ⟨rfl, _, rfl⟩
      · rw [if_pos rfl]
        have H1 := Lib.hid h1
        have H2 := Lib.hid h2
        clear h1 h2
        go_enter Tryz.func20, Tryz.ntmps20
        go_wp2_with (first | (go_at_call 34; refine (letter_b _ _ _ H1.out).mono ?_; rintro e w' ⟨rfl, rfl⟩) | (go_at_call 36; refine (digit_b _ _ _ H2.out).mono ?_; rintro e w' ⟨rfl, rfl⟩) | (go_at_call 37; refine (number_b _ _ pL pW hL hl).mono ?_; rintro e w' ⟨a, b, c, rfl, hv, nd, rfl⟩; have Hv := Lib.hid hv; clear hv))
        go_ret3
        exact ⟨by rw [Hv.out]; rfl, _, rfl⟩
    · rw [if_pos rfl]
      have H1 := Lib.hid h1
      clear h1
      go_enter Tryz.func20, Tryz.ntmps20
      go_wp2_with (first | (go_at_call 34; refine (letter_b _ _ _ H1.out).mono ?_; rintro e w' ⟨rfl, rfl⟩) | (go_at_call 35; refine (word_b _ _ pL pW hL hl).mono ?_; rintro e w' ⟨a, b, c, rfl, hv, nd, rfl⟩; have Hv := Lib.hid hv; clear hv))
      go_ret3
      exact ⟨by rw [Hv.out]; rfl, _, rfl⟩

def numV : Rd → Value
  | .ok v u => .tuple #[.int .i64 v, .int .i64 (typN u), .bool true]
  | .bad _ => .tuple #[.int .i64 0, .int .i64 0, .bool false]
theorem Number_any (s : ByteArray) (w : World) (pL pW : Addr) (hL : Laid w pL pW) (hl : s.size ≤ 4611686018427387904) :
    Calls Tryz.prog 63 #[.string s] w fun e w' => e = .returned (numV (readF (lst s))) ∧ ∃ n, w' = w.drewN n := by
  cases hr : readF (lst s) with
  | ok v u =>
    have Hr := Lib.hid hr
    clear hr
    go_enter Tryz.func63, Tryz.ntmps63
    go_wp2_with (go_at_call 59; refine (read_ok _ _ pL pW hL hl _ _ Hr.out).mono ?_; rintro e w' ⟨rfl, nd, rfl⟩)
    go_quiet (fail)
    go_wp2
    go_ret3
    exact ⟨rfl, drew_drew _ _ _⟩
  | bad b =>
    have Hr := Lib.hid hr
    clear hr
    go_enter Tryz.func63, Tryz.ntmps63
    go_wp2_with (go_at_call 59; refine (read_bad _ _ pL pW hL hl _ Hr.out).mono ?_; rintro e w' ⟨rfl, nd, rfl⟩)
    go_quiet (fail)
    go_wp2
    go_ret3
    exact ⟨rfl, drew_drew _ _ _⟩
end Go.Proofs.YtoafcpbpnkfhoaaGreatDoor.Lex
