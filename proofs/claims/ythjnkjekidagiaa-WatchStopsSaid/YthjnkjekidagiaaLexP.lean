/-
  Plain functions on lists of bytes for layer 2 (tokens): what the functions of package lex compute. No program is named here.
-/
import Derived.WalkKit
import Derived.Lib.Hide
namespace Go.Proofs.Ythjnkjekidagiaa.Lex

def isLetterF (c : UInt8) : Bool := decide (97 ≤ c.toNat) && decide (c.toNat ≤ 122)
def isDigitF (c : UInt8) : Bool := decide (48 ≤ c.toNat) && decide (c.toNat ≤ 57)
def inWordF (c : UInt8) : Bool := isLetterF c || isDigitF c || decide (c.toNat = 95)
def inLineF (c : UInt8) : Bool := decide (c.toNat ≠ 10)
def blankF (c : UInt8) : Bool := decide (c.toNat = 32) || decide (c.toNat = 9) || decide (c.toNat = 10) || decide (c.toNat = 13)
def spanF (p : UInt8 → Bool) : List UInt8 → Nat
  | [] => 0
  | c :: l => if p c then spanF p l + 1 else 0
/-- How many bytes part: blanks and remarks; r: within a remark. -/
def gapG : Bool → List UInt8 → Nat
  | _, [] => 0
  | r, c :: l => if ((r || decide (c.toNat = 35)) && inLineF c) || blankF c then gapG ((r || decide (c.toNat = 35)) && inLineF c) l + 1 else 0
def twoSigns : List (List UInt8) := [[61, 61], [33, 61], [60, 61], [62, 61], [60, 60], [62, 62]]
def oneSigns : List UInt8 := [40, 41, 123, 125, 91, 93, 44, 59, 58, 61, 60, 62, 43, 45, 42, 47, 37, 38, 124, 94, 126]
def signF (l : List UInt8) : Nat := if 1 < l.length ∧ twoSigns.contains (l.take 2) = true then 2 else match l with | [] => 0 | c :: _ => if oneSigns.contains c then 1 else 0
def keyWords : List (List UInt8) := [[103,108,111,98,97,108], [102,110], [114,101,113,117,105,114,101,115], [101,110,115,117,114,101,115], [97,115,115,105,103,110,115], [110,111,116,104,105,110,103], [108,101,116], [99,97,108,108], [105,102], [101,108,115,101], [119,104,105,108,101], [105,110,118,97,114,105,97,110,116], [98,114,101,97,107], [99,111,110,116,105,110,117,101], [114,101,116,117,114,110], [97,115,115,101,114,116], [105,110,112,117,116], [111,108,100], [114,101,115,117,108,116], [110,111,116], [97,110,100], [111,114], [105,56], [117,56], [105,49,54], [117,49,54], [105,51,50], [117,51,50]]
def isKeyF (l : List UInt8) : Bool := keyWords.contains l

inductive Rd where
  | ok (v : Nat) (u : Bool)
  | bad (long : Bool)
inductive Sc where
  | tok (kind size : Nat)
  | bad (long : Bool)
deriving DecidableEq

def hasU (l : List UInt8) : Bool := decide (l.getLast? = some 117)
def cutU (l : List UInt8) : List UInt8 := if hasU l then l.dropLast else l
def valF (l : List UInt8) : Nat := l.foldl (fun v c => v * 10 + (c.toNat - 48)) 0
def maxN (u : Bool) : Nat := if u then 4294967295 else 2147483647
def readN (d : List UInt8) (u : Bool) : Rd :=
  if d = [] ∨ spanF isDigitF d < d.length then .bad false
  else if 10 < d.length then .bad true
  else if maxN u < valF d then .bad true
  else if d.head? = some 48 ∧ 1 < d.length then .bad false
  else .ok (valF d) u
def readF (l : List UInt8) : Rd := readN (cutU l) (hasU l)
def numLen (l : List UInt8) : Nat := if (l.drop (spanF isDigitF l)).head? = some 117 then spanF isDigitF l + 1 else spanF isDigitF l
def numberF (l : List UInt8) : Sc :=
  match readF (l.take (numLen l)) with
  | .bad b => .bad b
  | .ok _ _ => if 0 < spanF inWordF (l.drop (numLen l)) then .bad false else .tok 2 (numLen l)
def wordF (l : List UInt8) : Sc := if isKeyF (l.take (spanF inWordF l)) then .tok 3 (spanF inWordF l) else if 20 < spanF inWordF l then .bad true else .tok 1 (spanF inWordF l)
def scanF (l : List UInt8) : Sc :=
  match l with
  | [] => .tok 0 0
  | c :: _ => if isLetterF c then wordF l else if isDigitF c then numberF l else if 0 < signF l then .tok 4 (signF l) else .bad false

structure Tok where
  kind : Nat
  text : List UInt8
  place : Nat
deriving DecidableEq

/-- Tokens, or an error (long or not) and its place. -/
inductive Lx where
  | toks (ts : List Tok)
  | bad (long : Bool) (place : Nat)
def Lx.pre (ts : List Tok) : Lx → Lx
  | .toks us => .toks (ts ++ us)
  | .bad b a => .bad b a
/-- The tokens of what is left, from the place k on. -/
def lexTo : Nat → List UInt8 → Nat → Lx
  | 0, _, _ => .bad false 0
  | f + 1, l, k =>
    match scanF (l.drop (gapG false l)) with
    | .bad b => .bad b (k + gapG false l)
    | .tok 0 _ => .toks [⟨0, [], k + gapG false l⟩]
    | .tok (q + 1) n => Lx.pre [⟨q + 1, (l.drop (gapG false l)).take n, k + gapG false l⟩] (lexTo f (l.drop (gapG false l + n)) (k + gapG false l + n))
def lexF (l : List UInt8) : Lx := if 8192 < l.length then .bad true 8192 else lexTo (l.length + 1) l 0

theorem span_le (p : UInt8 → Bool) (l : List UInt8) : spanF p l ≤ l.length := by
  induction l with
  | nil => simp [spanF]
  | cons c l ih => simp only [spanF]; split <;> simp <;> omega
theorem span_all (p : UInt8 → Bool) (l : List UInt8) (k : Nat) (hk : k ≤ spanF p l) (hlt : k < l.length) : (p l[k] = true ∧ k + 1 ≤ spanF p l) ∨ (p l[k] = false ∧ spanF p l = k) := by
  induction l generalizing k with
  | nil => simp at hlt
  | cons c l ih =>
    simp only [spanF] at hk ⊢
    cases hp : p c
    · simp [hp] at hk ⊢; subst hk; simp [hp]
    · simp [hp] at hk ⊢
      cases k with
      | zero => simp [hp]
      | succ k =>
        simp at hlt ⊢
        rcases ih k (by omega) (by omega) with h | h
        · exact .inl ⟨h.1, by omega⟩
        · exact .inr ⟨h.1, by omega⟩
theorem gap_le (r : Bool) (l : List UInt8) : gapG r l ≤ l.length := by
  induction l generalizing r with
  | nil => simp [gapG]
  | cons c l ih => simp only [gapG]; split <;> simp; exact ih _
theorem gap_rem (l : List UInt8) : gapG true l = spanF inLineF l + gapG false (l.drop (spanF inLineF l)) := by
  induction l with
  | nil => simp [gapG, spanF]
  | cons c l ih =>
    by_cases h : inLineF c = true
    · simp [gapG, spanF, h, ih]; omega
    · have h0 : inLineF c = false := by simpa using h
      have h1 : c.toNat = 10 := by simpa [inLineF] using h0
      simp [gapG, spanF, h0, h1, blankF]
/-- One step of the gap, from k on. -/
theorem gap_step (l : List UInt8) (k : Nat) (hk : k < l.length) :
    (blankF l[k] = true ∧ gapG false (l.drop k) = 1 + gapG false (l.drop (k + 1))) ∨
    (blankF l[k] = false ∧ l[k].toNat = 35 ∧ gapG false (l.drop k) = spanF inLineF (l.drop k) + gapG false (l.drop (k + spanF inLineF (l.drop k))) ∧ 1 ≤ spanF inLineF (l.drop k)) ∨
    (blankF l[k] = false ∧ l[k].toNat ≠ 35 ∧ gapG false (l.drop k) = 0) := by
  rw [List.drop_eq_getElem_cons hk]
  generalize l[k] = c
  by_cases hb : blankF c = true
  · left
    refine ⟨hb, ?_⟩
    have hne : c.toNat ≠ 35 := by intro h; simp [blankF, h] at hb
    simp [gapG, hb, hne, Nat.add_comm]
  · have hb0 : blankF c = false := by simpa using hb
    by_cases h35 : c.toNat = 35
    · right; left
      have hl : inLineF c = true := by simp [inLineF, h35]
      refine ⟨hb0, h35, ?_, by simp [spanF, hl]⟩
      have hs : spanF inLineF (c :: l.drop (k + 1)) = spanF inLineF (l.drop (k + 1)) + 1 := by simp [spanF, hl]
      rw [hs]
      have := gap_rem (l.drop (k + 1))
      rw [List.drop_drop] at this
      simp only [gapG, h35, hl]
      simp [this]
      rw [show k + (spanF inLineF (List.drop (k + 1) l) + 1) = k + 1 + spanF inLineF (List.drop (k + 1) l) by omega]
      omega
    · right; right
      exact ⟨hb0, h35, by simp [gapG, hb0, h35]⟩
theorem sign_le (l : List UInt8) : signF l ≤ l.length ∧ signF l ≤ 2 := by
  unfold signF
  split
  · omega
  · cases l with
    | nil => simp
    | cons c l => simp; split <;> omega
theorem numLen_le (l : List UInt8) : numLen l ≤ l.length := by
  unfold numLen
  have := span_le isDigitF l
  split
  · rename_i h
    have : (l.drop (spanF isDigitF l)) ≠ [] := by intro e; rw [e] at h; simp at h
    have := List.length_pos_iff.2 this
    simp at this; omega
  · exact this
theorem scan_le (l : List UInt8) (k n : Nat) (h : scanF l = .tok k n) : n ≤ l.length ∧ (k = 0 ↔ l = []) ∧ (k ≠ 0 → 0 < n) ∧ k ≤ 4 := by
  unfold scanF at h
  cases l with
  | nil => simp at h; obtain ⟨rfl, rfl⟩ := h; simp
  | cons c l =>
    simp only [] at h
    by_cases h1 : isLetterF c = true
    · have hw : inWordF c = true := by simp [inWordF, h1]
      have hs := span_le inWordF (c :: l)
      have hp : 0 < spanF inWordF (c :: l) := by simp [spanF, hw]
      simp only [h1, if_true] at h
      unfold wordF at h
      split at h
      · injection h with h2 h3; subst h2 h3; exact ⟨hs, by simp, fun _ => hp, by omega⟩
      · split at h
        · cases h
        · injection h with h2 h3; subst h2 h3; exact ⟨hs, by simp, fun _ => hp, by omega⟩
    · simp only [h1] at h
      by_cases h2 : isDigitF c = true
      · simp only [h2, if_true] at h
        have hs := numLen_le (c :: l)
        have hp : 0 < numLen (c :: l) := by
          unfold numLen
          have : 0 < spanF isDigitF (c :: l) := by simp [spanF, h2]
          split <;> omega
        unfold numberF at h
        simp only [Bool.false_eq_true, if_false] at h
        split at h
        · cases h
        · split at h
          · cases h
          · injection h with h2 h3; subst h2 h3; exact ⟨hs, by simp, fun _ => hp, by omega⟩
      · simp only [h2, Bool.false_eq_true, if_false] at h
        split at h
        · injection h with h2 h3; subst h2 h3
          have := sign_le (c :: l)
          exact ⟨this.1, by simp, fun _ => by assumption, by omega⟩
        · cases h
end Go.Proofs.Ythjnkjekidagiaa.Lex
