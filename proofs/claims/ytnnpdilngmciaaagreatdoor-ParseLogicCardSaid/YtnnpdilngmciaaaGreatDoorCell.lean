/-
  What a list of nodes, and a list of conditions, has in its cells.
-/
import Derived.Test.YtnnpdilngmciaaaGreatDoorPrsJ
namespace Go.Proofs.YtnnpdilngmciaaaGreatDoor.Prs
open Go.RowKit

theorem ex_cell {w : World} {B : Nat} {v : Value} {l : List Ex} (h : w.ownsRow B 35 7 v l.length (exCells l)) (hne : 0 < l.length) : ∃ g c, v = .slice (some ⟨g, 0, none⟩) l.length c ∧ l.length ≤ c ∧ c ≤ maxLen ∧ g < w.heap.size ∧
    ∀ i (hi : i < l.length), w.cell? ⟨g, i * 7, none⟩ = some (.int .i64 l[i].kind) ∧ w.cell? ⟨g, i * 7 + 4, none⟩ = some (.int .i64 l[i].a) ∧ w.cell? ⟨g, i * 7 + 5, none⟩ = some (.int .i64 l[i].b) := by
  rcases h.2 with ⟨_, hn⟩ | ⟨g, cap, cur, hv, hb, hg, hc, hm, hsz, htk⟩
  · omega
  · have hcell : ∀ (j : Nat) (u : Value), (exCells l)[j]? = some u → w.cell? ⟨g, j, none⟩ = some u := by
      intro j u hj
      rw [← htk, List.getElem?_take] at hj
      split at hj
      · simpa [World.cell?, hg] using hj
      · cases hj
    have hget : ∀ (l : List Ex) (i : Nat) (hi : i < l.length), (exCells l)[i * 7]? = some (.int .i64 l[i].kind) ∧ (exCells l)[i * 7 + 4]? = some (.int .i64 l[i].a) ∧ (exCells l)[i * 7 + 5]? = some (.int .i64 l[i].b) := by
      intro l
      induction l with
      | nil => intro i hi; simp at hi
      | cons a l ih =>
        intro i hi
        have hcs : exCells (a :: l) = exCell a ++ exCells l := by simp [exCells]
        rw [hcs]
        cases i with
        | zero => simp [exCell]
        | succ i =>
          have := ih i (by simpa using hi)
          rw [show (i + 1) * 7 = i * 7 + 7 by omega, show i * 7 + 7 + 4 = i * 7 + 4 + 7 by omega, show i * 7 + 7 + 5 = i * 7 + 5 + 7 by omega]
          simpa [exCell] using this
    exact ⟨g, cap, hv, hc, hm, (Array.getElem?_eq_some_iff.1 hg).1, fun i hi => ⟨hcell _ _ (hget l i hi).1, hcell _ _ (hget l i hi).2.1, hcell _ _ (hget l i hi).2.2⟩⟩
theorem cn_cell {w : World} {B : Nat} {v : Value} {l : List Cn} (h : CnOwn w B v l) (hne : 0 < l.length) : ∃ g c, v = .slice (some ⟨g, 0, none⟩) l.length c ∧ l.length ≤ c ∧ c ≤ maxLen ∧ g < w.heap.size ∧
    ∀ i (hi : i < l.length), ∃ x y, w.cell? ⟨g, i * 7, none⟩ = some (.int .i64 l[i].kind) ∧ w.cell? ⟨g, i * 7 + 1, none⟩ = some (.int .i64 l[i].rel) ∧ w.cell? ⟨g, i * 7 + 2, none⟩ = some x ∧ w.cell? ⟨g, i * 7 + 3, none⟩ = some y ∧ w.cell? ⟨g, i * 7 + 4, none⟩ = some (.int .i64 l[i].a) ∧ w.cell? ⟨g, i * 7 + 5, none⟩ = some (.int .i64 l[i].b) ∧ w.cell? ⟨g, i * 7 + 6, none⟩ = some (.int .i64 l[i].place) ∧
      w.ownsRow B 35 7 x l[i].x.length (exCells l[i].x) ∧ w.ownsRow B 35 7 y l[i].y.length (exCells l[i].y) := by
  obtain ⟨xs, h, hcn⟩ := h
  rcases h.2 with ⟨_, hn⟩ | ⟨g, cap, cur, hv, hb, hg, hc, hm, hsz, htk⟩
  · omega
  · have hcell : ∀ (j : Nat) (u : Value), xs[j]? = some u → w.cell? ⟨g, j, none⟩ = some u := by
      intro j u hj
      rw [← htk, List.getElem?_take] at hj
      split at hj
      · simpa [World.cell?, hg] using hj
      · cases hj
    have hget : ∀ (l : List Cn) (xs : List Value), CnCells w B l xs → ∀ (i : Nat) (hi : i < l.length), ∃ x y, xs[i * 7]? = some (.int .i64 l[i].kind) ∧ xs[i * 7 + 1]? = some (.int .i64 l[i].rel) ∧ xs[i * 7 + 2]? = some x ∧ xs[i * 7 + 3]? = some y ∧ xs[i * 7 + 4]? = some (.int .i64 l[i].a) ∧ xs[i * 7 + 5]? = some (.int .i64 l[i].b) ∧ xs[i * 7 + 6]? = some (.int .i64 l[i].place) ∧
        w.ownsRow B 35 7 x l[i].x.length (exCells l[i].x) ∧ w.ownsRow B 35 7 y l[i].y.length (exCells l[i].y) := by
      intro l
      induction l with
      | nil => intro xs _ i hi; simp at hi
      | cons a l ih =>
        intro xs hx i hi
        obtain ⟨x, y, rest, e, h1, h2, h3⟩ := hx
        subst e
        cases i with
        | zero => exact ⟨x, y, by simp, by simp, by simp, by simp, by simp, by simp, by simp, by simpa using h1, by simpa using h2⟩
        | succ i =>
          obtain ⟨x', y', g0, g1, g2, g3, g4, g5, g6, g7, g8⟩ := ih rest h3 i (by simpa using hi)
          refine ⟨x', y', ?_, ?_, ?_, ?_, ?_, ?_, ?_, by simpa using g7, by simpa using g8⟩
          · rw [show (i + 1) * 7 = i * 7 + 7 by omega]; simpa using g0
          · rw [show (i + 1) * 7 + 1 = i * 7 + 1 + 7 by omega]; simpa using g1
          · rw [show (i + 1) * 7 + 2 = i * 7 + 2 + 7 by omega]; simpa using g2
          · rw [show (i + 1) * 7 + 3 = i * 7 + 3 + 7 by omega]; simpa using g3
          · rw [show (i + 1) * 7 + 4 = i * 7 + 4 + 7 by omega]; simpa using g4
          · rw [show (i + 1) * 7 + 5 = i * 7 + 5 + 7 by omega]; simpa using g5
          · rw [show (i + 1) * 7 + 6 = i * 7 + 6 + 7 by omega]; simpa using g6
    refine ⟨g, cap, hv, hc, hm, (Array.getElem?_eq_some_iff.1 hg).1, fun i hi => ?_⟩
    obtain ⟨x, y, g0, g1, g2, g3, g4, g5, g6, g7, g8⟩ := hget l xs hcn i hi
    exact ⟨x, y, hcell _ _ g0, hcell _ _ g1, hcell _ _ g2, hcell _ _ g3, hcell _ _ g4, hcell _ _ g5, hcell _ _ g6, g7, g8⟩
end Go.Proofs.YtnnpdilngmciaaaGreatDoor.Prs
