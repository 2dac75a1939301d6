/-
  What lies in the cells of a list of globals, of functions, of statements; Digits at one digit.
-/
import Derived.Test.YtoafcpbpnkfhoaaGreatDoorPrsQ
import Derived.Test.YtoafcpbpnkfhoaaGreatDoorParP
import Derived.Test.YtoafcpbpnkfhoaaGreatDoorDig
namespace Go.Proofs.YtoafcpbpnkfhoaaGreatDoor.Prs
open Go.RowKit
open Lex (lst)

theorem gl_cells {w : World} {B : Nat} {v : Value} {l : List Gl} (h : GlOwn w B v l) (hne : 0 < l.length) : ∃ g c, v = .slice (some ⟨g, 0, none⟩) l.length c ∧ l.length ≤ c ∧ c ≤ maxLen ∧ g < w.heap.size ∧ ∀ i (hi : i < l.length), w.cell? ⟨g, i * 5, none⟩ = some (.string ⟨l[i].name.toArray⟩) ∧ w.cell? ⟨g, i * 5 + 3, none⟩ = some (.int .i64 l[i].init) := by
  rcases h.2 with ⟨_, hn⟩ | ⟨g, cap, cur, hv, hb, hg, hc, hm, hsz, htk⟩
  · omega
  · have hcell : ∀ (j : Nat) (u : Value), (glCells l)[j]? = some u → w.cell? ⟨g, j, none⟩ = some u := by
      intro j u hj
      rw [← htk, List.getElem?_take] at hj
      split at hj
      · simpa [World.cell?, hg] using hj
      · cases hj
    have hget : ∀ (l : List Gl) (i : Nat) (hi : i < l.length), (glCells l)[i * 5]? = some (.string ⟨l[i].name.toArray⟩) ∧ (glCells l)[i * 5 + 3]? = some (.int .i64 l[i].init) := by
      intro l
      induction l with
      | nil => intro i hi; simp at hi
      | cons a l ih =>
        intro i hi
        have hcs : glCells (a :: l) = .string ⟨a.name.toArray⟩ :: .int .i64 a.ty :: .int .i64 a.size :: .int .i64 a.init :: .int .i64 a.place :: glCells l := rfl
        rw [hcs]
        cases i with
        | zero => simp
        | succ i =>
          have := ih i (by simpa using hi)
          rw [show (i + 1) * 5 = i * 5 + 5 by omega]
          simpa using this
    exact ⟨g, cap, hv, hc, hm, (Array.getElem?_eq_some_iff.1 hg).1, fun i hi => ⟨hcell _ _ (hget l i hi).1, hcell _ _ (hget l i hi).2⟩⟩
theorem fn_cells {w : World} {B : Nat} {v : Value} {l : List Fn} (h : FnOwn w B v l) (hne : 0 < l.length) : ∃ g c, v = .slice (some ⟨g, 0, none⟩) l.length c ∧ l.length ≤ c ∧ c ≤ maxLen ∧ g < w.heap.size ∧
    ∀ i (hi : i < l.length), ∃ ap cp ar cr ae ce an nn cn ab cb, w.cell? ⟨g, i * 8, none⟩ = some (.string ⟨l[i].name.toArray⟩) ∧ w.cell? ⟨g, i * 8 + 1, none⟩ = some (.int .i64 l[i].place) ∧ w.cell? ⟨g, i * 8 + 2, none⟩ = some (.slice ap l[i].np cp) ∧ w.cell? ⟨g, i * 8 + 3, none⟩ = some (.int .i64 l[i].ty) ∧ w.cell? ⟨g, i * 8 + 4, none⟩ = some (.slice ar l[i].nr cr) ∧ w.cell? ⟨g, i * 8 + 5, none⟩ = some (.slice ae l[i].ne ce) ∧ w.cell? ⟨g, i * 8 + 6, none⟩ = some (.slice an nn cn) ∧ w.cell? ⟨g, i * 8 + 7, none⟩ = some (.slice ab l[i].body.length cb) ∧ StOwn w B (.slice ab l[i].body.length cb) l[i].body := by
  obtain ⟨xs, h, hfn⟩ := h
  rcases h.2 with ⟨_, hn⟩ | ⟨g, cap, cur, hv, hb, hg, hc, hm, hsz, htk⟩
  · omega
  · have hcell : ∀ (j : Nat) (u : Value), xs[j]? = some u → w.cell? ⟨g, j, none⟩ = some u := by
      intro j u hj
      rw [← htk, List.getElem?_take] at hj
      split at hj
      · simpa [World.cell?, hg] using hj
      · cases hj
    have hget : ∀ (l : List Fn) (xs : List Value), FnCells w B l xs → ∀ (i : Nat) (hi : i < l.length), ∃ ap cp ar cr ae ce an nn cn ab cb, xs[i * 8]? = some (.string ⟨l[i].name.toArray⟩) ∧ xs[i * 8 + 1]? = some (.int .i64 l[i].place) ∧ xs[i * 8 + 2]? = some (.slice ap l[i].np cp) ∧ xs[i * 8 + 3]? = some (.int .i64 l[i].ty) ∧ xs[i * 8 + 4]? = some (.slice ar l[i].nr cr) ∧ xs[i * 8 + 5]? = some (.slice ae l[i].ne ce) ∧ xs[i * 8 + 6]? = some (.slice an nn cn) ∧ xs[i * 8 + 7]? = some (.slice ab l[i].body.length cb) ∧ StOwn w B (.slice ab l[i].body.length cb) l[i].body := by
      intro l
      induction l with
      | nil => intro xs _ i hi; simp at hi
      | cons a l ih =>
        intro xs hx i hi
        obtain ⟨ap, cp, ar, cr, ae, ce, an, nn, cn, ab, cb, rest, e, h1, h3⟩ := hx
        subst e
        cases i with
        | zero => exact ⟨ap, cp, ar, cr, ae, ce, an, nn, cn, ab, cb, by simp, by simp, by simp, by simp, by simp, by simp, by simp, by simp, by simpa using h1⟩
        | succ i =>
          obtain ⟨ap, cp, ar, cr, ae, ce, an, nn, cn, ab, cb, g0, g1, g2, g3, g4, g5, g6, g7, g8⟩ := ih rest h3 i (by simpa using hi)
          refine ⟨ap, cp, ar, cr, ae, ce, an, nn, cn, ab, cb, ?_, ?_, ?_, ?_, ?_, ?_, ?_, ?_, by simpa using g8⟩
          · rw [show (i + 1) * 8 = i * 8 + 8 by omega]; simpa using g0
          · rw [show (i + 1) * 8 + 1 = i * 8 + 1 + 8 by omega]; simpa using g1
          · rw [show (i + 1) * 8 + 2 = i * 8 + 2 + 8 by omega]; simpa using g2
          · rw [show (i + 1) * 8 + 3 = i * 8 + 3 + 8 by omega]; simpa using g3
          · rw [show (i + 1) * 8 + 4 = i * 8 + 4 + 8 by omega]; simpa using g4
          · rw [show (i + 1) * 8 + 5 = i * 8 + 5 + 8 by omega]; simpa using g5
          · rw [show (i + 1) * 8 + 6 = i * 8 + 6 + 8 by omega]; simpa using g6
          · rw [show (i + 1) * 8 + 7 = i * 8 + 7 + 8 by omega]; simpa using g7
    refine ⟨g, cap, hv, hc, hm, (Array.getElem?_eq_some_iff.1 hg).1, fun i hi => ?_⟩
    obtain ⟨ap, cp, ar, cr, ae, ce, an, nn, cn, ab, cb, g0, g1, g2, g3, g4, g5, g6, g7, g8⟩ := hget l xs hfn i hi
    exact ⟨ap, cp, ar, cr, ae, ce, an, nn, cn, ab, cb, hcell _ _ g0, hcell _ _ g1, hcell _ _ g2, hcell _ _ g3, hcell _ _ g4, hcell _ _ g5, hcell _ _ g6, hcell _ _ g7, g8⟩
theorem st_cells {w : World} {B : Nat} {v : Value} {l : List St} (h : StOwn w B v l) (hne : 0 < l.length) : ∃ g c, v = .slice (some ⟨g, 0, none⟩) l.length c ∧ l.length ≤ c ∧ c ≤ maxLen ∧ g < w.heap.size ∧ ∀ i (hi : i < l.length), w.cell? ⟨g, i * 15, none⟩ = some (.int .i64 l[i].kind) := by
  obtain ⟨xs, h, hst⟩ := h
  rcases h.2 with ⟨_, hn⟩ | ⟨g, cap, cur, hv, hb, hg, hc, hm, hsz, htk⟩
  · omega
  · have hcell : ∀ (j : Nat) (u : Value), xs[j]? = some u → w.cell? ⟨g, j, none⟩ = some u := by
      intro j u hj
      rw [← htk, List.getElem?_take] at hj
      split at hj
      · simpa [World.cell?, hg] using hj
      · cases hj
    have hget : ∀ (l : List St) (xs : List Value), StCells l xs → ∀ (i : Nat) (hi : i < l.length), xs[i * 15]? = some (.int .i64 l[i].kind) := by
      intro l
      induction l with
      | nil => intro xs _ i hi; simp at hi
      | cons a l ih =>
        intro xs hx i hi
        obtain ⟨more, rest, e, hm, h3⟩ := hx
        subst e
        cases i with
        | zero => simp
        | succ i =>
          have := ih rest h3 i (by simpa using hi)
          rw [show (i + 1) * 15 = i * 15 + 13 + 2 by omega]
          simp only [List.getElem?_cons_succ]
          rw [List.getElem?_append_right (by omega), hm, Nat.add_sub_cancel]
          simpa using this
    exact ⟨g, cap, hv, hc, hm, (Array.getElem?_eq_some_iff.1 hg).1, fun i hi => hcell _ _ (hget l xs hst i hi)⟩
/-- One digit as a text. -/
def dB (n : Nat) : ByteArray := ⟨#[dg n]⟩
theorem dB_size (n : Nat) : (dB n).size ≤ 1 := Nat.le_refl 1
theorem lst_dB (n : Nat) : lst (dB n) = [dg n] := rfl
theorem dig_small {n : Nat} (h : n < 10) : Lex.digTo 20 n = [dg n] := by
  simp only [Lex.digTo]
  rw [if_pos h]
  unfold dg
  congr 1
theorem Digits_small {n : Nat} (h : n < 10) (w : World) : Calls Tryz.prog 4 #[.int .i64 n] w fun e w' => e = .returned (.string (dB n)) ∧ Hid (Kept w w') := by
  have := Lex.Digits_nat n w (by omega)
  rw [dig_small h] at this
  exact this
theorem dB_app (a : UInt8) (n : Nat) : (⟨[a, dg n].toArray⟩ : ByteArray) = ⟨#[a]⟩ ++ dB n := by
  apply ByteArray.ext
  rw [ByteArray.data_append]
  rfl
end Go.Proofs.YtoafcpbpnkfhoaaGreatDoor.Prs
