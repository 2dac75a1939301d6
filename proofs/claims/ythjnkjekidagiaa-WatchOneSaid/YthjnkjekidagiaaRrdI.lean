/-
  unary of the document's answer's parser whole; row, unary and inner at whatever number of steps (said_all).
-/
import Derived.Test.YthjnkjekidagiaaRrdG
namespace Go.Proofs.Ythjnkjekidagiaa.Rpr
open Go.RowKit
open Lex (Tok isKeyF)
open Prs

theorem none_dpF {d p : Nat} {dp : Option Nat} (h : dpF d dp p = none) : dp = none ∧ d < 30 := by
  unfold dpF at h
  split at h
  · cases h
  · rename_i h1
    subst h
    simp at h1
    exact ⟨rfl, by omega⟩
theorem unary_step {f : Nat} (HI : ∀ g, g ≤ f → InnerSaid g) (HU : ∀ g, g ≤ f → UnarySaid g) : UnarySaid (f + 1) := by
  intro B G r d v us us' l l' w h hf
  cases us with
  | nil => simp [unaryF] at hf
  | cons t us =>
    simp only [unaryF] at hf
    by_cases h2 : t.kind = 2
    · rw [if_pos h2] at hf
      injection hf with e1 _ e3
      subst e1; subst e3
      exact unary_num w h h2
    rw [if_neg h2] at hf
    by_cases h1 : t.kind = 1
    · rw [if_pos h1] at hf
      cases f with
      | zero => simp [namedF] at hf
      | succ f =>
        cases us with
        | nil => simp [namedF] at hf
        | cons u us =>
          simp only [namedF] at hf
          by_cases hu : u.text = [91]
          · rw [if_pos hu] at hf
            obtain ⟨u1, d1, l2, e1, g1⟩ := bind_ok hf
            injection g1 with q1 q2 q3
            subst q1; subst q2; subst q3
            exact unary_elem (HI f (by omega)) w h h1 rfl (Lib.hid hu) e1
          · rw [if_neg hu] at hf
            injection hf with e1 _ e3
            subst e1; subst e3
            exact unary_var w h h1 rfl (Lib.hid hu)
    rw [if_neg h1] at hf
    by_cases hr : readT t.text ≠ 0
    · rw [if_pos hr] at hf
      obtain ⟨u1, d1, l2, e1, g1⟩ := bind_ok hf
      injection g1 with q1 q2 q3
      subst q1; subst q2; subst q3
      exact unary_cast (HI f (by omega)) w h hr e1
    rw [if_neg hr] at hf
    by_cases ho : t.text = [111, 108, 100]
    · rw [if_pos ho] at hf
      obtain ⟨u1, d1, l2, e1, g1⟩ := bind_ok hf
      injection g1 with q1 q2 q3
      subst q1; subst q2; subst q3
      exact unary_old (HI f (by omega)) w h ho e1
    rw [if_neg ho] at hf
    by_cases hs : t.text = [114, 101, 115, 117, 108, 116]
    · rw [if_pos hs] at hf
      injection hf with e1 _ e3
      subst e1; subst e3
      exact unary_result w h hs
    rw [if_neg hs] at hf
    by_cases hn : t.text = [45]
    · rw [if_pos hn] at hf
      obtain ⟨u1, d1, l2, e1, g1⟩ := bind_ok hf
      injection g1 with q1 q2 q3
      subst q1; subst q2; subst q3
      cases f with
      | zero => simp [signedF] at e1
      | succ f =>
        simp only [signedF] at e1
        have hd : dpF d none t.place = none := none_of_none (fun k hk => by rw [hk] at e1; exact (stays f).unary _ _ _ _ _ _ _ e1) rfl
        rw [hd] at e1
        exact unary_neg (HU f (by omega)) w h hn e1 (none_dpF hd).2
    rw [if_neg hn] at hf
    by_cases hc : t.text = [126]
    · rw [if_pos hc] at hf
      obtain ⟨u1, d1, l2, e1, g1⟩ := bind_ok hf
      injection g1 with q1 q2 q3
      subst q1; subst q2; subst q3
      cases f with
      | zero => simp [signedF] at e1
      | succ f =>
        simp only [signedF] at e1
        have hd : dpF d none t.place = none := none_of_none (fun k hk => by rw [hk] at e1; exact (stays f).unary _ _ _ _ _ _ _ e1) rfl
        rw [hd] at e1
        exact unary_com (HU f (by omega)) w h hc e1 (none_dpF hd).2
    rw [if_neg hc] at hf
    cases f with
    | zero => simp [bracketF] at hf
    | succ f =>
      have ht : t.text = [40] := by
        simp only [bracketF] at hf
        obtain ⟨u1, d1, a1, e1, -⟩ := bind_ok hf
        obtain ⟨t', e, ht, -⟩ := open_ok e1
        injection e with e _
        rw [e]; exact ht
      exact unary_paren (HI (f + 1) (by omega)) w h ht hf

theorem said_all : ∀ f, RowSaid f ∧ UnarySaid f ∧ InnerSaid f := by
  intro f
  induction f using Nat.strongRecOn with
  | ind f ih =>
    cases f with
    | zero =>
      refine ⟨?_, ?_, ?_⟩
      · intro B G r d lvl v us us' l l' w _ _ hf; simp [chainF] at hf
      · intro B G r d v us us' l l' w _ hf; simp [unaryF] at hf
      · intro B G r d v us us' l l' o c w _ _ _ hf; simp [bracketF] at hf
    | succ f =>
      exact ⟨row_step (fun g hg => (ih g (by omega)).1) (ih f (by omega)).2.1, unary_step (fun g hg => (ih g (by omega)).2.2) (fun g hg => (ih g (by omega)).2.1), inner_step (ih f (by omega)).1⟩
end Go.Proofs.Ythjnkjekidagiaa.Rpr
