/-
  Plain facts on what the conditions' functions come to (PrsP): where it was too deep once it stays so; the list grows, by no more than the tokens that were read. No program is named here.
-/
import Derived.Test.YthjnkjekidagiaaRrdQ
namespace Go.Proofs.Ythjnkjekidagiaa.Rpr
open Lex (Tok)
open Prs

theorem stays_compared {f : Nat} {us us' : List Tok} {d k : Nat} {dp' : Option Nat} {c : Cn} (h : comparedF f us d (some k) = .ok us' dp' c) : dp' = some k := by
  unfold comparedF exprF at h
  obtain ⟨u1, d1, x, h1, h2⟩ := bind_ok h
  obtain rfl := (stays f).chain _ _ _ _ _ _ _ _ h1
  cases u1 with
  | nil => cases h2
  | cons t u2 =>
    simp only at h2
    split at h2
    · cases h2
    · obtain ⟨u3, d3, y, h3, h4⟩ := bind_ok h2
      obtain rfl := (stays f).chain _ _ _ _ _ _ _ _ h3
      injection h4 with _ h4 _; exact h4.symm
/-- What compared comes to, where it goes well. -/
theorem compared_ok {f : Nat} {us us' : List Tok} {d : Nat} {dp dp' : Option Nat} {c : Cn} (h : comparedF f us d dp = .ok us' dp' c) :
    ∃ t us2 dp1 x y, chainF f 0 us d dp [] = .ok (t :: us2) dp1 x ∧ relF t.text ≠ 0 ∧ chainF f 0 us2 d dp1 [] = .ok us' dp' y ∧ c = ⟨1, relF t.text, x, y, -1, -1, t.place⟩ := by
  unfold comparedF exprF at h
  obtain ⟨u1, d1, x, h1, h2⟩ := bind_ok h
  cases u1 with
  | nil => cases h2
  | cons t u2 =>
    simp only at h2
    split at h2
    · cases h2
    · rename_i hr
      obtain ⟨u3, d3, y, h3, h4⟩ := bind_ok h2
      injection h4 with e1 e2 e3
      subst e1; subst e2
      exact ⟨t, u2, d1, x, y, h1, hr, h3, e3.symm⟩
structure StaysC (f : Nat) : Prop where
  one : ∀ us d k l us' dp' l', oneF f us d (some k) l = .ok us' dp' l' → dp' = some k
  both : ∀ us d k l us' dp' l', bothF f us d (some k) l = .ok us' dp' l' → dp' = some k
  bothL : ∀ us d k l us' dp' l', bothL f us d (some k) l = .ok us' dp' l' → dp' = some k
  either : ∀ us d k l us' dp' l', eitherF f us d (some k) l = .ok us' dp' l' → dp' = some k
  eitherL : ∀ us d k l us' dp' l', eitherL f us d (some k) l = .ok us' dp' l' → dp' = some k
theorem staysC : ∀ f, StaysC f
  | 0 => by
    refine ⟨?_, ?_, ?_, ?_, ?_⟩
    · intro us d k l us' dp' l' h; simp [oneF] at h
    · intro us d k l us' dp' l' h; simp [bothF] at h
    · intro us d k l us' dp' l' h; simp [Prs.bothL] at h
    · intro us d k l us' dp' l' h; simp [eitherF] at h
    · intro us d k l us' dp' l' h; simp [Prs.eitherL] at h
  | f + 1 => by
    have ih := staysC f
    refine ⟨?_, ?_, ?_, ?_, ?_⟩
    · intro us d k l us' dp' l' h
      cases us with
      | nil => simp [oneF] at h
      | cons t us =>
        simp only [oneF, dpF_some] at h
        split at h
        · obtain ⟨u1, d1, a, h1, h2⟩ := bind_ok h
          obtain rfl := ih.one _ _ _ _ _ _ _ h1
          injection h2 with _ h2 _; exact h2.symm
        split at h
        · obtain ⟨u1, d1, a, h1, h2⟩ := bind_ok h
          obtain rfl := ih.either _ _ _ _ _ _ _ h1
          obtain ⟨u3, d3, a3, h5, h6⟩ := bind_ok h2
          obtain ⟨e, -⟩ := take_ok h5
          subst e
          injection h6 with _ h2 _; exact h2.symm
        · obtain ⟨u1, d1, a, h1, h2⟩ := bind_ok h
          obtain rfl := stays_compared h1
          injection h2 with _ h2 _; exact h2.symm
    · intro us d k l us' dp' l' h
      simp only [bothF] at h
      obtain ⟨u1, d1, a, h1, h2⟩ := bind_ok h
      obtain rfl := ih.one _ _ _ _ _ _ _ h1
      exact ih.bothL _ _ _ _ _ _ _ h2
    · intro us d k l us' dp' l' h
      cases us with
      | nil => simp [Prs.bothL] at h
      | cons t us =>
        simp only [Prs.bothL] at h
        split at h
        · obtain ⟨u1, d1, a, h1, h2⟩ := bind_ok h
          obtain rfl := ih.one _ _ _ _ _ _ _ h1
          exact ih.bothL _ _ _ _ _ _ _ h2
        · injection h with _ h2 _; exact h2.symm
    · intro us d k l us' dp' l' h
      simp only [eitherF] at h
      obtain ⟨u1, d1, a, h1, h2⟩ := bind_ok h
      obtain rfl := ih.both _ _ _ _ _ _ _ h1
      exact ih.eitherL _ _ _ _ _ _ _ h2
    · intro us d k l us' dp' l' h
      cases us with
      | nil => simp [Prs.eitherL] at h
      | cons t us =>
        simp only [Prs.eitherL] at h
        split at h
        · obtain ⟨u1, d1, a, h1, h2⟩ := bind_ok h
          obtain rfl := ih.both _ _ _ _ _ _ _ h1
          exact ih.eitherL _ _ _ _ _ _ _ h2
        · injection h with _ h2 _; exact h2.symm

def MoC (l : List Cn) (us : List Tok) (l' : List Cn) (us' : List Tok) : Prop := l'.length + us'.length ≤ l.length + us.length ∧ us'.length ≤ us.length
structure GrowsC (f : Nat) : Prop where
  one : ∀ us d dp l us' dp' l', oneF f us d dp l = .ok us' dp' l' → l.length < l'.length ∧ MoC l us l' us'
  both : ∀ us d dp l us' dp' l', bothF f us d dp l = .ok us' dp' l' → l.length < l'.length ∧ MoC l us l' us'
  bothL : ∀ us d dp l us' dp' l', bothL f us d dp l = .ok us' dp' l' → l.length ≤ l'.length ∧ MoC l us l' us'
  either : ∀ us d dp l us' dp' l', eitherF f us d dp l = .ok us' dp' l' → l.length < l'.length ∧ MoC l us l' us'
  eitherL : ∀ us d dp l us' dp' l', eitherL f us d dp l = .ok us' dp' l' → l.length ≤ l'.length ∧ MoC l us l' us'
theorem growsC : ∀ f, GrowsC f
  | 0 => by
    refine ⟨?_, ?_, ?_, ?_, ?_⟩
    · intro us d k l us' dp' l' h; simp [oneF] at h
    · intro us d k l us' dp' l' h; simp [bothF] at h
    · intro us d k l us' dp' l' h; simp [Prs.bothL] at h
    · intro us d k l us' dp' l' h; simp [eitherF] at h
    · intro us d k l us' dp' l' h; simp [Prs.eitherL] at h
  | f + 1 => by
    have ih := growsC f
    refine ⟨?_, ?_, ?_, ?_, ?_⟩
    · intro us d k l us' dp' l' h
      cases us with
      | nil => simp [oneF] at h
      | cons t us =>
        simp only [oneF] at h
        split at h
        · obtain ⟨u1, d1, a, h1, h2⟩ := bind_ok h
          have g := ih.one _ _ _ _ _ _ _ h1
          injection h2 with h1 _ h3; subst h1; subst h3; unfold MoC at *; simp; omega
        split at h
        · obtain ⟨u1, d1, a, h1, h2⟩ := bind_ok h
          have g := ih.either _ _ _ _ _ _ _ h1
          obtain ⟨u3, d3, a3, h5, h6⟩ := bind_ok h2
          obtain ⟨-, t2, rfl, -, -⟩ := take_ok h5
          injection h6 with h1 _ h3; subst h1; subst h3; unfold MoC at *; simp at g ⊢; omega
        · obtain ⟨u1, d1, a, h1, h2⟩ := bind_ok h
          obtain ⟨t, us2, dp1, x, y, e1, e2, e3, e4⟩ := compared_ok h1
          have g1 := (grows f).chain _ _ _ _ _ _ _ _ e1
          have g3 := (grows f).chain _ _ _ _ _ _ _ _ e3
          injection h2 with h1 _ h3; subst h1; subst h3; unfold MoC; unfold Mo at g1 g3; simp at g1 g3 ⊢; omega
    · intro us d k l us' dp' l' h
      simp only [bothF] at h
      obtain ⟨u1, d1, a, h1, h2⟩ := bind_ok h
      have g1 := ih.one _ _ _ _ _ _ _ h1
      have g2 := ih.bothL _ _ _ _ _ _ _ h2
      unfold MoC at *; omega
    · intro us d k l us' dp' l' h
      cases us with
      | nil => simp [Prs.bothL] at h
      | cons t us =>
        simp only [Prs.bothL] at h
        split at h
        · obtain ⟨u1, d1, a, h1, h2⟩ := bind_ok h
          have g1 := ih.one _ _ _ _ _ _ _ h1
          have g2 := ih.bothL _ _ _ _ _ _ _ h2
          unfold MoC at *; simp at g2 ⊢; omega
        · injection h with h1 _ h3; subst h1; subst h3; unfold MoC; omega
    · intro us d k l us' dp' l' h
      simp only [eitherF] at h
      obtain ⟨u1, d1, a, h1, h2⟩ := bind_ok h
      have g1 := ih.both _ _ _ _ _ _ _ h1
      have g2 := ih.eitherL _ _ _ _ _ _ _ h2
      unfold MoC at *; omega
    · intro us d k l us' dp' l' h
      cases us with
      | nil => simp [Prs.eitherL] at h
      | cons t us =>
        simp only [Prs.eitherL] at h
        split at h
        · obtain ⟨u1, d1, a, h1, h2⟩ := bind_ok h
          have g1 := ih.both _ _ _ _ _ _ _ h1
          have g2 := ih.eitherL _ _ _ _ _ _ _ h2
          unfold MoC at *; simp at g2 ⊢; omega
        · injection h with h1 _ h3; subst h1; subst h3; unfold MoC; omega
end Go.Proofs.Ythjnkjekidagiaa.Rpr
