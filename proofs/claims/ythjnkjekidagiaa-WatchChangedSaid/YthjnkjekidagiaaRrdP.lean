/-
  Plain facts on what the expressions' functions come to (PrsP): where it was too deep once it stays so. No program is named here.
-/
import Derived.Test.YthjnkjekidagiaaPrsP
namespace Go.Proofs.Ythjnkjekidagiaa.Rpr
open Lex (Tok)
open Prs

theorem bind_ok {α β : Type} {r : Res α} {f : List Tok → Option Nat → α → Res β} {us : List Tok} {dp : Option Nat} {b : β} (h : r.bind f = .ok us dp b) : ∃ us1 dp1 a, r = .ok us1 dp1 a ∧ f us1 dp1 a = .ok us dp b := by
  cases r with
  | out => cases h
  | bad k => cases h
  | ok us1 dp1 a => exact ⟨us1, dp1, a, rfl, h⟩
theorem dpF_some (d k p : Nat) : dpF d (some k) p = some k := by unfold dpF; simp
theorem dpF_none {d p : Nat} (h : dpF d none p = none) : d < 30 := by
  unfold dpF at h
  split at h
  · cases h
  · rename_i h1; simp at h1; omega
theorem take_ok {s : List UInt8} {us us' : List Tok} {dp dp' : Option Nat} {a : Nat} (h : takeF s us dp = .ok us' dp' a) : dp' = dp ∧ ∃ t, us = t :: us' ∧ t.text = s ∧ a = t.place := by
  cases us with
  | nil => cases h
  | cons t us =>
    simp only [takeF] at h
    split at h
    · rename_i ht; injection h with h1 h2 h3; subst h1; subst h2; exact ⟨rfl, t, rfl, ht, h3.symm⟩
    · cases h
theorem open_ok {s : List UInt8} {us us' : List Tok} {d : Nat} {dp dp' : Option Nat} {a : Nat} (h : openF s us d dp = .ok us' dp' a) : ∃ t, us = t :: us' ∧ t.text = s ∧ dp' = dpF d dp t.place := by
  cases us with
  | nil => cases h
  | cons t us =>
    simp only [openF] at h
    split at h
    · rename_i ht; injection h with h1 h2 h3; subst h1; subst h2; exact ⟨t, rfl, ht, rfl⟩
    · cases h

structure Stays (f : Nat) : Prop where
  chain : ∀ lvl us d k l us' dp' l', chainF f lvl us d (some k) l = .ok us' dp' l' → dp' = some k
  loop : ∀ lvl us d k l us' dp' l', loopF f lvl us d (some k) l = .ok us' dp' l' → dp' = some k
  unary : ∀ us d k l us' dp' l', unaryF f us d (some k) l = .ok us' dp' l' → dp' = some k
  named : ∀ t us d k l us' dp' l', namedF f t us d (some k) l = .ok us' dp' l' → dp' = some k
  signed : ∀ t us d k l us' dp' l', signedF f t us d (some k) l = .ok us' dp' l' → dp' = some k
  bracket : ∀ o c us d k l us' dp' l', bracketF f o c us d (some k) l = .ok us' dp' l' → dp' = some k
theorem stays : ∀ f, Stays f
  | 0 => by
    refine ⟨?_, ?_, ?_, ?_, ?_, ?_⟩
    · intro lvl us d k l us' dp' l' h; simp [chainF] at h
    · intro lvl us d k l us' dp' l' h; simp [loopF] at h
    · intro us d k l us' dp' l' h; simp [unaryF] at h
    · intro t us d k l us' dp' l' h; simp [namedF] at h
    · intro t us d k l us' dp' l' h; simp [signedF] at h
    · intro o c us d k l us' dp' l' h; simp [bracketF] at h
  | f + 1 => by
    have ih := stays f
    refine ⟨?_, ?_, ?_, ?_, ?_, ?_⟩
    · intro lvl us d k l us' dp' l' h
      simp only [chainF] at h
      split at h
      · exact ih.unary _ _ _ _ _ _ _ h
      · obtain ⟨u1, d1, a, h1, h2⟩ := bind_ok h
        obtain rfl := ih.chain _ _ _ _ _ _ _ _ h1
        exact ih.loop _ _ _ _ _ _ _ _ h2
    · intro lvl us d k l us' dp' l' h
      cases us with
      | nil => simp [loopF] at h
      | cons t us =>
        simp only [loopF] at h
        split at h
        · obtain ⟨u1, d1, a, h1, h2⟩ := bind_ok h
          obtain rfl := ih.chain _ _ _ _ _ _ _ _ h1
          exact ih.loop _ _ _ _ _ _ _ _ h2
        · injection h with _ h2 _; exact h2.symm
    · intro us d k l us' dp' l' h
      cases us with
      | nil => simp [unaryF] at h
      | cons t us =>
        simp only [unaryF] at h
        split at h
        · injection h with _ h2 _; exact h2.symm
        split at h
        · exact ih.named _ _ _ _ _ _ _ _ h
        split at h
        · obtain ⟨u1, d1, a, h1, h2⟩ := bind_ok h
          obtain rfl := ih.bracket _ _ _ _ _ _ _ _ _ h1
          injection h2 with _ h2 _; exact h2.symm
        split at h
        · obtain ⟨u1, d1, a, h1, h2⟩ := bind_ok h
          obtain rfl := ih.bracket _ _ _ _ _ _ _ _ _ h1
          injection h2 with _ h2 _; exact h2.symm
        split at h
        · injection h with _ h2 _; exact h2.symm
        split at h
        · obtain ⟨u1, d1, a, h1, h2⟩ := bind_ok h
          obtain rfl := ih.signed _ _ _ _ _ _ _ _ h1
          injection h2 with _ h2 _; exact h2.symm
        split at h
        · obtain ⟨u1, d1, a, h1, h2⟩ := bind_ok h
          obtain rfl := ih.signed _ _ _ _ _ _ _ _ h1
          injection h2 with _ h2 _; exact h2.symm
        · exact ih.bracket _ _ _ _ _ _ _ _ _ h
    · intro t us d k l us' dp' l' h
      cases us with
      | nil => simp [namedF] at h
      | cons u us =>
        simp only [namedF] at h
        split at h
        · obtain ⟨u1, d1, a, h1, h2⟩ := bind_ok h
          obtain rfl := ih.bracket _ _ _ _ _ _ _ _ _ h1
          injection h2 with _ h2 _; exact h2.symm
        · injection h with _ h2 _; exact h2.symm
    · intro t us d k l us' dp' l' h
      simp only [signedF, dpF_some] at h
      exact ih.unary _ _ _ _ _ _ _ h
    · intro o c us d k l us' dp' l' h
      simp only [bracketF] at h
      obtain ⟨u1, d1, a, h1, h2⟩ := bind_ok h
      obtain ⟨t, -, -, e⟩ := open_ok h1
      rw [dpF_some] at e; subst e
      obtain ⟨u2, d2, a2, h3, h4⟩ := bind_ok h2
      obtain rfl := ih.chain _ _ _ _ _ _ _ _ h3
      obtain ⟨u3, d3, a3, h5, h6⟩ := bind_ok h4
      obtain ⟨e, -⟩ := take_ok h5
      subst e
      injection h6 with _ h2 _; exact h2.symm
theorem none_of_none {dp dp' : Option Nat} (h : ∀ k, dp = some k → dp' = some k) (hn : dp' = none) : dp = none := by
  cases dp with
  | none => rfl
  | some k => rw [h k rfl] at hn; cases hn
end Go.Proofs.Ythjnkjekidagiaa.Rpr
