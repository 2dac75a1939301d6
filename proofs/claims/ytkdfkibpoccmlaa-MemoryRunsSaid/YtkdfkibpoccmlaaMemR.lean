/-
  Contract of the document's Cut for package memory. (Of a memory that there is.)
-/
import Derived.Test.YtkdfkibpoccmlaaMemQ
namespace Go.Proofs.Ytkdfkibpoccmlaa.Mem
open Go.RowKit

/-- Another list of the first blocks is put in the place of the old one. -/
theorem MemAt.put {B : Nat} {tM : TypeId} {w w1 : World} {p g cap m : Nat} {v : Value} {L : List Bk} (h : MemAt B tM w p v L) (hM' : tM ≠ 3) (hm : m ≤ L.length) (hk : Kept w w1) {C : Nat} (hC : w.heap.size ≤ C) (hB : B ≤ w.heap.size)
    (hr : w1.ownsRow C 40 2 (.slice (some ⟨g, 0, none⟩) m cap) m (bkCells (L.take m))) :
    MemAt B tM (w1.setCell ⟨p, 0, none⟩ (.slice (some ⟨g, 0, none⟩) m cap)) p (.slice (some ⟨g, 0, none⟩) m cap) (L.take m) ∧ Chg (fun k => k = p) w (w1.setCell ⟨p, 0, none⟩ (.slice (some ⟨g, 0, none⟩) m cap)) ∧ w.heap.size ≤ g := by
  have hcc : Chg (fun k => k = p) w (w1.setCell ⟨p, 0, none⟩ (.slice (some ⟨g, 0, none⟩) m cap)) := (Chg.of_kept (S := fun k => k = p) hk).setCell (fun _ => rfl) _
  have hp1 := Kept.heap hk h.box
  have hlen : (L.take m).length = m := by rw [List.length_take]; omega
  have hg := own_base hr (g := g) rfl
  have hps := box_lt h.box
  have hr' := own_chg hr (chg_set w1 p 0 (.slice (some ⟨g, 0, none⟩) m cap)) (fun k hk' e => by simp [Value.ownBlock] at hk'; omega)
  refine ⟨⟨h.lo, ?_, ?_, ?_, ?_, ?_⟩, hcc, by omega⟩
  · simpa using heap_setCell_same _ _ 0 _ _ (.slice (some ⟨g, 0, none⟩) m cap) hp1
  · rw [hlen]
    refine ⟨hr'.1, ?_⟩
    rcases hr'.2 with h2 | ⟨g', cp, c, h0, h1, h2⟩
    · exact .inl h2
    · exact .inr ⟨g', cp, c, h0, by omega, h2⟩
  · intro x hx
    refine (h.inn x (List.mem_of_mem_take hx)).chg hcc fun e => ?_
    obtain ⟨c, g1, -⟩ := (h.inn x (List.mem_of_mem_take hx)).cells
    exact ne_of_ty g1 h.box (Ne.symm hM') e
  · rw [List.map_take]; exact h.sep.sublist (List.take_sublist _ _)
  · intro x hx; exact h.pos x (List.mem_of_mem_take hx)
theorem bkCells_one (L : List Bk) : ∀ u ∈ bkCells L, u.oneCell' = true := by
  intro u hu
  unfold bkCells at hu
  obtain ⟨x, -, hx⟩ := List.mem_flatMap.1 hu
  simp [bkCell, bkVal] at hx
  rcases hx with rfl | rfl <;> rfl

set_option maxHeartbeats 4000000 in
set_option maxRecDepth 100000 in
theorem rcut_any {B : Nat} {w : World} {p : Nat} {v : Value} {L : List Bk} (h : MemAt B 29 w p v L) (hl : L.length ≤ 100000) (hB : B ≤ w.heap.size) (n : Int) :
    Calls Try.prog 16 #[.pointer (some ⟨p, 0, none⟩), .int .i64 n] w fun e w' => e = .returned (.tuple #[]) ∧ Hid (∃ v', MemAt B 29 w' p v' (L.take n.toNat) ∧ Chg (fun k => k = p) w w' ∧ ∃ g, v'.ownBlock = some g ∧ w.heap.size ≤ g) := by
  obtain ⟨m, hm, hmL, hm0⟩ : ∃ m : Nat, max 0 (min n (L.length : Int)) = (m : Int) ∧ m ≤ L.length ∧ L.take n.toNat = L.take m := by
    refine ⟨min n.toNat L.length, by omega, by omega, ?_⟩
    by_cases h : n.toNat ≤ L.length
    · rw [Nat.min_eq_left h]
    · rw [Nat.min_eq_right (by omega), List.take_of_length_le (by omega), List.take_of_length_le (by omega)]
  rw [hm0]
  have c0 := box_cell h.box 0 _ rfl
  have f0 := box_froz h.box 0
  have hps := box_lt h.box
  have H := Lib.hid h
  obtain ⟨i0, hi, hz0, hz1, hz2⟩ := info_parts blk_info
  rcases h.out with ⟨rfl, rfl⟩ | ⟨o, cap, cur, rfl, ho, hc, hmx, hcell⟩
  · obtain rfl : m = 0 := by simpa using hmL
    clear h
    simp at hm
    go_enter Try.func16, Try.ntmps16
    go_wp2
    have e0 := heap_setCell_same _ _ 0 _ _ (.slice (some ⟨w.heap.size, 0, none⟩) 0 0) H.out.box
    have e1 := Kept.heap ((Kept.refl _).alloc (.cells #[] 40)) e0
    have e2 := heap_alloc_new (w.setCell ⟨p, 0, none⟩ (.slice (some ⟨w.heap.size, 0, none⟩) 0 0)) (.cells #[] 40)
    rw [show (w.setCell ⟨p, 0, none⟩ (.slice (some ⟨w.heap.size, 0, none⟩) 0 0)).heap.size = w.heap.size by simp] at e2
    refine bodyPost_end (results_none rfl _ _ _) rfl ⟨rfl, Lib.hid ⟨.slice (some ⟨w.heap.size, 0, none⟩) 0 0, ⟨H.out.lo, by simpa using e1, ⟨rfl, .inr ⟨w.heap.size, 0, #[], rfl, hB, e2, by simp, by simp [maxLen], rfl, rfl⟩⟩, (by intro x hx; simp at hx), by simp, (by intro x hx; simp at hx)⟩, ?_, _, rfl, Nat.le_refl _⟩⟩
    exact (((Chg.refl (fun k => k = p) w).setCell (fun _ => rfl) _).alloc _)
  have hpre : ∀ j u, (bkCells (L.take m))[j]? = some u → w.cell? ⟨o, j, none⟩ = some u := by
    intro j u hj
    rcases h.row.2 with ⟨e, _⟩ | ⟨g, cp, c, e, g1, g2, g3, g4, g5, g6⟩
    · cases e
    · injection e with e1 e2 e3; injection e1 with e1; injection e1 with e1; subst e1
      have h5 : (bkCells L)[j]? = some u := by
        have hj' : j < m * 2 := by have := (List.getElem?_eq_some_iff.1 hj).1; rw [bkCells_length, List.length_take] at this; omega
        have e5 : bkCells L = bkCells (L.take m) ++ bkCells (L.drop m) := by
          conv => lhs; rw [← List.take_append_drop m L]
          simp only [bkCells, List.flatMap_append]
        rw [e5, List.getElem?_append_left (by rw [bkCells_length, List.length_take]; omega)]; exact hj
      rw [← g6, List.getElem?_take] at h5
      split at h5
      · simpa [World.cell?, g2] using h5
      · cases h5
  have HP := Lib.hid hpre
  clear h hcell hpre
  go_enter Try.func16, Try.ntmps16
  go_wp2_with (at_builtin; refine wpList_append_own _ rfl _ _ 27 rfl w.heap.size 40 i0 (.agg #[.int .i64 0, .slice none 0 0]) 2 32 Try.underlying27 hi hz0 hz1 hz2 rfl (by decide) _ _ _ rfl (World.ownsRow_made w #[] 0 (Nat.le_refl _) (Nat.zero_le _) rfl) ⟨o, 0, none⟩ m cap (bkCells (L.take m)) rfl ?qc1 ?qc2 ?qc3 ?qc4 ?qc5 ?qc6 ?_)
  case qc1 => rw [bkCells_length, List.length_take]; omega
  case qc2 =>
    intro j u hj
    rw [Addr.add_lit, Nat.zero_add]
    exact Lib.cell?_alloc_some _ (HP.out j u hj)
  case qc3 => exact bkCells_one _
  case qc4 => unfold maxLen; omega
  case qc5 => omega
  case qc6 => simp
  intro v' w1 hown hgrow hnil
  obtain ⟨g, cp, rfl, hg⟩ : ∃ g cap, v' = .slice (some ⟨g, 0, none⟩) m cap ∧ w.heap.size ≤ g := by
    rcases hown.2 with ⟨e, _⟩ | ⟨g, cap, c, e, h2, _⟩
    · exact absurd e hnil
    · exact ⟨g, cap, by simpa using e, h2⟩
  have hk : Kept w w1 := ((Below.refl _ w).alloc (Nat.le_refl _) _).grown hgrow (by simp) (by intro k hk; simp [Value.ownBlock] at hk; omega)
  have hf := H.out.put (by decide) hmL hk (Nat.le_refl _) hB hown
  have Hf := Lib.hid hf
  have hb := Kept.heap hk H.out.box
  have c1 := box_cell hb 0 _ rfl
  have f1 := box_froz hb 0
  clear hown hgrow hnil hf hb hk
  go_wp2
  exact bodyPost_end (results_none rfl _ _ _) rfl ⟨rfl, Lib.hid ⟨_, Hf.out.1, Hf.out.2.1, g, rfl, Hf.out.2.2⟩⟩
end Go.Proofs.Ytkdfkibpoccmlaa.Mem
