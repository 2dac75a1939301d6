/-
  Strings as lists of bytes: plain facts for the walks of layer 2. No program is named here.
-/
import Derived.Test.YthjnkjekidagiaaLexP
import Derived.Test.YthjnkjekidagiaaBase
import Derived.Lib.Hide
import Derived.Lib.Strings
import Derived.Lib.Slices
import Derived.Lib.Walk
namespace Go.Proofs.Ythjnkjekidagiaa.Lex
open Go.RowKit

def lst (s : ByteArray) : List UInt8 := s.data.toList
theorem lst_length (s : ByteArray) : (lst s).length = s.size := rfl
theorem lst_get (s : ByteArray) (k : Nat) (h : k < s.size) : (lst s)[k]'h = s[k]'h := rfl
theorem lst_mk (l : List UInt8) : lst ⟨l.toArray⟩ = l := rfl
theorem lst_toList (s : ByteArray) : s.toList = lst s := Lib.toList_data s
theorem lst_extract (s : ByteArray) (a b : Nat) : lst (s.extract a b) = ((lst s).drop a).take (b - a) := by
  rw [← lst_toList, Lib.extract_toList]; simp [lst, List.take_drop]
theorem lst_from (s : ByteArray) (a : Nat) : lst (s.extract a s.size) = (lst s).drop a := by
  rw [lst_extract, List.take_of_length_le (by rw [List.length_drop, lst_length]; omega)]
theorem lst_to (s : ByteArray) (b : Nat) : lst (s.extract 0 b) = (lst s).take b := by
  rw [lst_extract]; simp
theorem mk_lst (s : ByteArray) : (⟨(lst s).toArray⟩ : ByteArray) = s := by unfold lst; rw [Array.toArray_toList]
theorem eqI {c : UInt8} {n : Nat} (h : c.toNat = n) : (((c.toNat : Nat) : Int) == (n : Int)) = true := by rw [h]; simp
theorem neI {c : UInt8} {n : Nat} (h : c.toNat ≠ n) : (((c.toNat : Nat) : Int) == (n : Int)) = false := by simpa using (by omega : ¬ ((c.toNat : Int) = (n : Int)))
theorem blank_no {c : UInt8} (h : blankF c = false) : c.toNat ≠ 32 ∧ c.toNat ≠ 9 ∧ c.toNat ≠ 10 ∧ c.toNat ≠ 13 := by simpa [blankF, and_assoc] using h
theorem blank_yes {c : UInt8} (h : blankF c = true) (h1 : ((c.toNat : Int) == 32) = false) (h2 : ((c.toNat : Int) == 9) = false) (h3 : ((c.toNat : Int) == 10) = false) : ((c.toNat : Int) == 13) = true := by
  simp [blankF, or_assoc] at h; simp at h1 h2 h3; simp; omega
theorem span_all' (p : UInt8 → Bool) (s : ByteArray) (k : Nat) (hk : k ≤ spanF p (lst s)) (hlt : k < s.size) : (p s[k] = true ∧ k + 1 ≤ spanF p (lst s)) ∨ (p s[k] = false ∧ spanF p (lst s) = k) := span_all p (lst s) k hk hlt
theorem span_le' (p : UInt8 → Bool) (s : ByteArray) : spanF p (lst s) ≤ s.size := span_le p (lst s)

theorem gap_step' (s : ByteArray) (k : Nat) (hk : k < s.size) :
    (blankF s[k] = true ∧ gapG false ((lst s).drop k) = 1 + gapG false ((lst s).drop (k + 1))) ∨
    (blankF s[k] = false ∧ s[k].toNat = 35 ∧ gapG false ((lst s).drop k) = spanF inLineF ((lst s).drop k) + gapG false ((lst s).drop (k + spanF inLineF ((lst s).drop k))) ∧ 1 ≤ spanF inLineF ((lst s).drop k)) ∨
    (blankF s[k] = false ∧ s[k].toNat ≠ 35 ∧ gapG false ((lst s).drop k) = 0) := gap_step (lst s) k hk

theorem contains_no {ks : List (List UInt8)} {l : List UInt8} (h : ks.contains l = false) (k : List UInt8) (hk : ks.contains k = true) : (l == k) = false := by
  rw [beq_eq_false_iff_ne]; rintro rfl; rw [hk] at h; cases h
theorem lit_of {s : ByteArray} {l : List UInt8} (h : lst s = l) : s = ⟨l.toArray⟩ := by rw [← h, mk_lst]

theorem key_cases (l : List UInt8) (h : isKeyF l = true) : l = [103, 108, 111, 98, 97, 108] ∨ l = [102, 110] ∨ l = [114, 101, 113, 117, 105, 114, 101, 115] ∨ l = [101, 110, 115, 117, 114, 101, 115] ∨ l = [97, 115, 115, 105, 103, 110, 115] ∨ l = [110, 111, 116, 104, 105, 110, 103] ∨ l = [108, 101, 116] ∨ l = [99, 97, 108, 108] ∨ l = [105, 102] ∨ l = [101, 108, 115, 101] ∨ l = [119, 104, 105, 108, 101] ∨ l = [105, 110, 118, 97, 114, 105, 97, 110, 116] ∨ l = [98, 114, 101, 97, 107] ∨ l = [99, 111, 110, 116, 105, 110, 117, 101] ∨ l = [114, 101, 116, 117, 114, 110] ∨ l = [97, 115, 115, 101, 114, 116] ∨ l = [105, 110, 112, 117, 116] ∨ l = [111, 108, 100] ∨ l = [114, 101, 115, 117, 108, 116] ∨ l = [110, 111, 116] ∨ l = [97, 110, 100] ∨ l = [111, 114] ∨ l = [105, 56] ∨ l = [117, 56] ∨ l = [105, 49, 54] ∨ l = [117, 49, 54] ∨ l = [105, 51, 50] ∨ l = [117, 51, 50] := by
  simpa [isKeyF, keyWords] using h
theorem two_cases (l : List UInt8) (h : twoSigns.contains l = true) : l = [61, 61] ∨ l = [33, 61] ∨ l = [60, 61] ∨ l = [62, 61] ∨ l = [60, 60] ∨ l = [62, 62] := by
  simpa [twoSigns] using h
theorem sign_one {l : List UInt8} (h : ¬ (1 < l.length ∧ twoSigns.contains (l.take 2) = true)) (h0 : 0 < l.length) : signF l = if oneSigns.contains l[0] then 1 else 0 := by
  unfold signF
  rw [if_neg h]
  cases l with
  | nil => simp at h0
  | cons c l => rfl
end Go.Proofs.Ythjnkjekidagiaa.Lex
