/-
  Statements of layer 9: lists of Ids that are made beside a memory; what Changed tells where one value is changed.
-/
import Derived.Test.YthjnkjekidagiaaWchTop
import Derived.Maps.AppendAt
namespace Go.Proofs.Ythjnkjekidagiaa.Wch
open Go.RowKit
open Mem

def iota (k : Nat) : List Int := (List.range k).map fun i : Nat => (i : Int)
theorem iota_len (k : Nat) : (iota k).length = k := by simp [iota]
theorem iota_succ (k : Nat) : iota (k + 1) = iota k ++ [(k : Int)] := by simp [iota, List.range_succ]
theorem iota_mem {k : Nat} {x : Int} (h : x ∈ iota k) : ∃ i : Nat, i < k ∧ x = i := by
  unfold iota at h
  obtain ⟨i, hi, rfl⟩ := List.mem_map.1 h
  exact ⟨i, by simpa using hi, rfl⟩
/-- A row of numbers of one's own is a list of numbers. -/
theorem ints_own {w : World} {B : Nat} {v : Value} {l : List Int} (h : w.ownsRow B 3 1 v l.length (ints l)) (hw : ∀ x ∈ l, (Lit.int .i64 x).wf = true) : IntsAt w v l := by
  rcases row_cells h with h0 | ⟨g, c, h1, h2, h3, h4⟩
  · exact .inl h0
  · refine .inr ⟨⟨g, 0, none⟩, c, h1, h2, h3, fun j hj => ?_⟩
    have ha : (⟨g, 0, none⟩ : Addr).add j = ⟨g, j, none⟩ := by unfold Addr.add; split <;> simp_all
    rw [ha]
    have h5 := h4 j hj
    refine ⟨?_, h5, hw _ (List.getElem_mem hj)⟩
    show g < w.heap.size
    unfold World.cell? at h5
    by_cases hb : g < w.heap.size
    · exact hb
    · rw [Array.getElem?_eq_none (by simpa using hb)] at h5; simp at h5
/-- A memory with so many rows, and a list of their Ids beside it. -/
def Side (w wx : World) (p : Nat) (v : Value) (L : List Bk) (T : List Row) (vi : Value) (k : Nat) : Prop :=
  MemAt w.heap.size 64 wx p v L ∧ L.map tv = T ∧ wx.ownsRow w.heap.size 3 1 vi k (ints (iota k)) ∧ (∀ g, vi.ownBlock = some g → ¬ foot p v L g) ∧ Kept w wx
theorem side_start (w : World) : Side w (w.alloc (.cells #[.slice none 0 0] 64)) w.heap.size (.slice none 0 0) [] [] (.slice none 0 0) 0 :=
  ⟨new_at w _ (Nat.le_refl _), rfl, ⟨rfl, .inl ⟨rfl, rfl⟩⟩, fun g hg => by simp [Value.ownBlock] at hg, new_kept w⟩
theorem own_lt {w : World} {base n size : Nat} {e : TypeId} {v : Value} {xs : List Value} (h : w.ownsRow base e size v n xs) {g : Nat} (hg : v.ownBlock = some g) : g < w.heap.size := by
  obtain ⟨c, hc⟩ := own_ty h hg; exact box_lt hc
theorem side_add {w wx w1 : World} {p : Nat} {v : Value} {L : List Bk} {T : List Row} {vi : Value} {k : Nat} (h : Side w wx p v L T vi k) {U : List Row} (hg : Goes w.heap.size 64 wx w1 p v L p U) : ∃ v' L', Side w w1 p v' L' U vi k := by
  obtain ⟨m1, e1, o1, d1, k1⟩ := h
  obtain ⟨v', L', h1, h2, h3, h4⟩ := hg
  refine ⟨v', L', h1, h2, own_chg o1 h3 d1, fun g hg hf => ?_, m1.kept_foot (Nat.le_refl _) k1 h3⟩
  rcases h4 g hf with e | e
  · exact d1 g hg e
  · have := own_lt o1 hg; omega
theorem side_app {w wx w2 : World} {p : Nat} {v : Value} {L : List Bk} {T : List Row} {vi : Value} {k : Nat} (h : Side w wx p v L T vi k) {o : Obj} {g cap : Nat} (ho : w2.ownsRow w.heap.size 3 1 (.slice (some ⟨g, 0, none⟩) (k + 1) cap) (k + 1) (ints (iota k) ++ [.int .i64 (k : Int)])) (hg : (wx.alloc o).grownBy w2 vi.ownBlock) (ha : vi.ownBlock = some g ∨ g = wx.heap.size + 1) : Side w w2 p v L T (.slice (some ⟨g, 0, none⟩) (k + 1) cap) (k + 1) := by
  obtain ⟨m1, e1, o1, d1, k1⟩ := h
  have hc : Chg (fun b => vi.ownBlock = some b) wx w2 := ((Chg.refl _ wx).alloc o).grown hg (fun b _ hb => hb)
  have e2 : ints (iota k) ++ [.int .i64 (k : Int)] = ints (iota (k + 1)) := by rw [iota_succ]; simp [ints]
  rw [e2] at ho
  refine ⟨m1.beside hc d1, e1, ho, fun b hb hf => ?_, kept_new k1 hc (fun b hb hv => by have := own_base o1 hv; omega)⟩
  simp [Value.ownBlock] at hb
  subst hb
  rcases ha with ha | ha
  · exact d1 g ha hf
  · have := m1.foot_lt hf; omega
theorem Side.ids {w wx : World} {p : Nat} {v : Value} {L : List Bk} {T : List Row} {vi : Value} {k : Nat} (h : Side w wx p v L T vi k) (hk : k ≤ 100) : IntsAt wx vi (iota k) := by
  have o1 := h.2.2.1
  refine ints_own (B := w.heap.size) (by rw [iota_len]; exact o1) fun x hx => ?_
  obtain ⟨i, hi, rfl⟩ := iota_mem hx
  exact WalkArith.wf_i64 (by omega)

theorem chg_none {D : Int → Bool} {may : List Int} : ∀ {l : List Int}, (∀ i ∈ l, may.contains i = true ∨ D i = false) → chgR D may l = -1
  | [], _ => rfl
  | i :: r, h => by
    unfold chgR
    rw [if_neg, chg_none (fun j hj => h j (List.mem_cons_of_mem _ hj))]
    rintro ⟨h1, h2⟩
    rcases h i (List.mem_cons_self ..) with e | e
    · rw [h1] at e; cases e
    · rw [h2] at e; cases e
theorem chg_one {D : Int → Bool} {k : Int} : ∀ {l : List Int}, k ∈ l → (∀ i ∈ l, D i = decide (i = k)) → chgR D [] l = k
  | [], h, _ => by cases h
  | i :: r, h, hD => by
    unfold chgR
    by_cases e : i = k
    · rw [if_pos ⟨rfl, by rw [hD i (List.mem_cons_self ..), e]; simp⟩, e]
    · rw [if_neg (by rintro ⟨_, h2⟩; rw [hD i (List.mem_cons_self ..)] at h2; exact e (by simpa using h2))]
      refine chg_one ?_ fun j hj => hD j (List.mem_cons_of_mem _ hj)
      rcases List.mem_cons.1 h with e' | e'
      · exact absurd e'.symm e
      · exact e'
theorem dif_self (T : List Row) (i : Int) : difR T T i = false := by unfold difR; simp
theorem blk_at {T : List Row} {i : Nat} {x : Row} (h : T[i]? = some x) : blkR T i = (true, x.1, x.2) := by
  unfold blkR; rw [if_pos (by omega), Int.toNat_natCast, h]
/-- One value is set: just its row is another one. -/
theorem dif_set {z : List Int} {n q j : Nat} (hq : q < n) (hj : (j : Int) < sz z q) : ∀ i ∈ iota n, difR (rowsF z n) (setT (rowsF z n) q j 5) i = decide (i = (q : Int)) := by
  intro i hi
  obtain ⟨k, hk, rfl⟩ := iota_mem hi
  rw [rowsF_set z 5 hq hj (by omega)]
  unfold difR
  rw [blk_at (rowsF_at z hk)]
  by_cases e : k = q
  · subst e
    rw [blk_at (x := (5, (List.replicate (sz z k).toNat 0).set j 5)) (by simp [rowsF_len, hk])]
    have h1 : (List.replicate (sz z k).toNat (0 : Int)) ≠ (List.replicate (sz z k).toNat (0 : Int)).set j 5 := by
      intro e
      have h2 := congrArg (fun l => l[j]?) e
      rw [repl_at (by omega), List.getElem?_set_self (by simp; omega)] at h2
      injection h2 with h2; omega
    have h2 : ((true, (5 : Int), List.replicate (sz z k).toNat (0 : Int)) != (true, (5 : Int), (List.replicate (sz z k).toNat (0 : Int)).set j 5)) = true := by
      rw [bne_iff_ne]; intro e; injection e with _ e; injection e with _ e; exact h1 e
    rw [h2]; simp
  · rw [blk_at (x := (5, List.replicate (sz z k).toNat 0)) (by rw [List.getElem?_set_ne (by omega)]; exact rowsF_at z hk)]
    have h3 : ¬ ((k : Int) = (q : Int)) := by omega
    simp [h3]
end Go.Proofs.Ythjnkjekidagiaa.Wch
