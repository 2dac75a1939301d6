/-
  Tokens in their cells, and the steps of lexTo from a place on: for lex.Lex and the document's answer's Lex.
-/
import Derived.Test.YthjnkjekidagiaaRows
import Derived.Test.YthjnkjekidagiaaLst
import Derived.WalkKit
namespace Go.Proofs.Ythjnkjekidagiaa.Lex
open Go.RowKit

def tokCells (t : Tok) : List Value := [.int .i64 t.kind, .string ⟨t.text.toArray⟩, .int .i64 t.place]
def cellsOf (ts : List Tok) : List Value := ts.flatMap tokCells
theorem cells_snoc (ts : List Tok) (t : Tok) : cellsOf (ts ++ [t]) = cellsOf ts ++ tokCells t := by simp [cellsOf]
theorem tok_info : (Try.prog.info? 83).map (fun i => (i.zero, i.size, i.bytes)) = some (some (.agg #[.int .i64 0, .string ⟨#[]⟩, .int .i64 0]), 3, 32) := by kernel_rfl
theorem tok_cells (s : ByteArray) (q a n : Nat) : [Value.int .i64 q, .string (s.extract a (a + n)), .int .i64 a] = tokCells ⟨q, ((lst s).drop a).take n, a⟩ := by
  unfold tokCells
  rw [show s.extract a (a + n) = ⟨(((lst s).drop a).take n).toArray⟩ from by rw [← mk_lst (s.extract a (a + n)), lst_extract, Nat.add_sub_cancel_left]]

theorem pre_out {a : List Tok} {r : Lx} {b : List Tok} (h : Lx.pre a r = .toks b) : ∃ c, r = .toks c ∧ b = a ++ c := by
  cases r with
  | toks us => simp only [Lx.pre] at h; injection h with h; exact ⟨us, rfl, h.symm⟩
  | bad x y => simp [Lx.pre] at h
/-- Blanks and remarks pass. -/
theorem lex_gap {l : List UInt8} {k n f : Nat} {R : List Tok} (hg : gapG false (l.drop k) = n + gapG false (l.drop (k + n))) (h : lexTo f (l.drop k) k = .toks R) : lexTo f (l.drop (k + n)) (k + n) = .toks R := by
  cases f with
  | zero => simp [lexTo] at h
  | succ f =>
    have e : ∀ m, (l.drop k).drop (n + m) = (l.drop (k + n)).drop m := fun m => by rw [List.drop_drop, List.drop_drop, Nat.add_assoc]
    unfold lexTo at h ⊢
    rw [hg, e] at h
    simp only [Nat.add_assoc] at h ⊢
    simp only [e] at h
    exact h
/-- The end. -/
theorem lex_end {k f : Nat} {R : List Tok} (h : lexTo f [] k = .toks R) : R = [⟨0, [], k⟩] := by
  cases f with
  | zero => simp [lexTo] at h
  | succ f =>
    unfold lexTo at h
    simp [gapG, scanF] at h
    exact h.symm
/-- A token. -/
theorem lex_tok {l : List UInt8} {k f : Nat} {R : List Tok} (hg : gapG false (l.drop k) = 0) (hk : k < l.length) (h : lexTo f (l.drop k) k = .toks R) :
    ∃ q n R' f', scanF (l.drop k) = .tok (q + 1) n ∧ R = ⟨q + 1, (l.drop k).take n, k⟩ :: R' ∧ lexTo f' (l.drop (k + n)) (k + n) = .toks R' ∧ 0 < n ∧ k + n ≤ l.length := by
  cases f with
  | zero => simp [lexTo] at h
  | succ f =>
    unfold lexTo at h
    simp only [hg, List.drop_zero, Nat.add_zero, Nat.zero_add] at h
    cases hs : scanF (l.drop k) with
    | bad b => rw [hs] at h; simp at h
    | tok q n =>
      obtain ⟨h1, h2, h3, -⟩ := scan_le _ _ _ hs
      rw [List.length_drop] at h1
      cases q with
      | zero =>
        have := h2.1 rfl
        have := congrArg List.length this
        simp at this; omega
      | succ q =>
        rw [hs] at h
        simp only [List.drop_drop] at h
        obtain ⟨R', e1, e2⟩ := pre_out h
        exact ⟨q, n, R', f, rfl, e2, e1, h3 (by omega), by omega⟩
end Go.Proofs.Ythjnkjekidagiaa.Lex
