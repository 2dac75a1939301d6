/-
  Plain facts on what the expressions' functions come to (PrsP): the list grows, by no more than the tokens that were read. No program is named here.
-/
import Derived.Test.YthjnkjekidagiaaRrdP
namespace Go.Proofs.Ythjnkjekidagiaa.Rpr
open Lex (Tok)
open Prs

def Mo (l : List Ex) (us : List Tok) (l' : List Ex) (us' : List Tok) : Prop := l'.length + us'.length ≤ l.length + us.length ∧ us'.length ≤ us.length
structure Grows (f : Nat) : Prop where
  chain : ∀ lvl us d dp l us' dp' l', chainF f lvl us d dp l = .ok us' dp' l' → l.length < l'.length ∧ Mo l us l' us'
  loop : ∀ lvl us d dp l us' dp' l', loopF f lvl us d dp l = .ok us' dp' l' → l.length ≤ l'.length ∧ Mo l us l' us'
  unary : ∀ us d dp l us' dp' l', unaryF f us d dp l = .ok us' dp' l' → l.length < l'.length ∧ Mo l us l' us'
  named : ∀ t us d dp l us' dp' l', namedF f t us d dp l = .ok us' dp' l' → l.length < l'.length ∧ l'.length + us'.length ≤ l.length + us.length + 1 ∧ us'.length ≤ us.length
  signed : ∀ t us d dp l us' dp' l', signedF f t us d dp l = .ok us' dp' l' → l.length < l'.length ∧ Mo l us l' us'
  bracket : ∀ o c us d dp l us' dp' l', bracketF f o c us d dp l = .ok us' dp' l' → l.length < l'.length ∧ l'.length + us'.length + 1 ≤ l.length + us.length ∧ us'.length ≤ us.length
theorem grows : ∀ f, Grows f
  | 0 => by
    refine ⟨?_, ?_, ?_, ?_, ?_, ?_⟩
    · intro lvl us d k l us' dp' l' h; simp [chainF] at h
    · intro lvl us d k l us' dp' l' h; simp [loopF] at h
    · intro us d k l us' dp' l' h; simp [unaryF] at h
    · intro t us d k l us' dp' l' h; simp [namedF] at h
    · intro t us d k l us' dp' l' h; simp [signedF] at h
    · intro o c us d k l us' dp' l' h; simp [bracketF] at h
  | f + 1 => by
    have ih := grows f
    refine ⟨?_, ?_, ?_, ?_, ?_, ?_⟩
    · intro lvl us d k l us' dp' l' h
      simp only [chainF] at h
      split at h
      · exact ih.unary _ _ _ _ _ _ _ h
      · obtain ⟨u1, d1, a, h1, h2⟩ := bind_ok h
        have g1 := ih.chain _ _ _ _ _ _ _ _ h1
        have g2 := ih.loop _ _ _ _ _ _ _ _ h2
        unfold Mo at *; omega
    · intro lvl us d k l us' dp' l' h
      cases us with
      | nil => simp [loopF] at h
      | cons t us =>
        simp only [loopF] at h
        split at h
        · obtain ⟨u1, d1, a, h1, h2⟩ := bind_ok h
          have g1 := ih.chain _ _ _ _ _ _ _ _ h1
          have g2 := ih.loop _ _ _ _ _ _ _ _ h2
          unfold Mo at *; simp at g2 ⊢; omega
        · injection h with h1 _ h3; subst h1; subst h3; unfold Mo; omega
    · intro us d k l us' dp' l' h
      cases us with
      | nil => simp [unaryF] at h
      | cons t us =>
        simp only [unaryF] at h
        split at h
        · injection h with h1 _ h3; subst h1; subst h3; unfold Mo; simp; omega
        split at h
        · have g := ih.named _ _ _ _ _ _ _ _ h
          unfold Mo; simp; omega
        split at h
        · obtain ⟨u1, d1, a, h1, h2⟩ := bind_ok h
          have g := ih.bracket _ _ _ _ _ _ _ _ _ h1
          injection h2 with h1 _ h3; subst h1; subst h3; unfold Mo; simp; omega
        split at h
        · obtain ⟨u1, d1, a, h1, h2⟩ := bind_ok h
          have g := ih.bracket _ _ _ _ _ _ _ _ _ h1
          injection h2 with h1 _ h3; subst h1; subst h3; unfold Mo; simp; omega
        split at h
        · injection h with h1 _ h3; subst h1; subst h3; unfold Mo; simp; omega
        split at h
        · obtain ⟨u1, d1, a, h1, h2⟩ := bind_ok h
          have g := ih.signed _ _ _ _ _ _ _ _ h1
          injection h2 with h1 _ h3; subst h1; subst h3; unfold Mo at *; simp; omega
        split at h
        · obtain ⟨u1, d1, a, h1, h2⟩ := bind_ok h
          have g := ih.signed _ _ _ _ _ _ _ _ h1
          injection h2 with h1 _ h3; subst h1; subst h3; unfold Mo at *; simp; omega
        · have g := ih.bracket _ _ _ _ _ _ _ _ _ h
          unfold Mo; simp at g ⊢; omega
    · intro t us d k l us' dp' l' h
      cases us with
      | nil => simp [namedF] at h
      | cons u us =>
        simp only [namedF] at h
        split at h
        · obtain ⟨u1, d1, a, h1, h2⟩ := bind_ok h
          have g := ih.bracket _ _ _ _ _ _ _ _ _ h1
          injection h2 with h1 _ h3; subst h1; subst h3; simp at g ⊢; omega
        · injection h with h1 _ h3; subst h1; subst h3; simp; omega
    · intro t us d k l us' dp' l' h
      simp only [signedF] at h
      exact ih.unary _ _ _ _ _ _ _ h
    · intro o c us d k l us' dp' l' h
      simp only [bracketF] at h
      obtain ⟨u1, d1, a, h1, h2⟩ := bind_ok h
      obtain ⟨t, rfl, -, -⟩ := open_ok h1
      obtain ⟨u2, d2, a2, h3, h4⟩ := bind_ok h2
      have g := ih.chain _ _ _ _ _ _ _ _ h3
      obtain ⟨u3, d3, a3, h5, h6⟩ := bind_ok h4
      obtain ⟨-, t2, rfl, -, -⟩ := take_ok h5
      injection h6 with h1 _ h3; subst h1; subst h3; unfold Mo at g; simp at g ⊢; omega
end Go.Proofs.Ythjnkjekidagiaa.Rpr
