/-
  The document's order, Order and Reducible (package calliperref10).
-/
import Derived.Test.YtpkebokfbigggaaDoorShpI
namespace Go.Proofs.YtpkebokfbigggaaDoor.Shp
open Go.RowKit
open Classical

section
variable {g : Gr} {f : Int} {dl : List Nat}
/-- An edge forward to b out of what is not done is among the first a rows, or the first k edges of row a. -/
def Blk (g : Gr) (f : Int) (dl : List Nat) (b a k : Nat) : Prop := ∃ a' i, (a' < a ∨ (a' = a ∧ i < k)) ∧ a' < g.length ∧ (row g a')[i]? = some (b : Int) ∧ ReI g f a' ∧ a' ∉ dl ∧ backB (idomL g f) (reachL g f) a' b = false
def FreeTo (g : Gr) (f : Int) (dl : List Nat) (b a k : Nat) : Prop := (ReI g f b ∧ b ∉ dl) ∧ ¬ Blk g f dl b a k
theorem freeTo_zero (b : Nat) : FreeTo g f dl b 0 0 ↔ ReI g f b ∧ b ∉ dl := ⟨fun h => h.1, fun h => ⟨h, by rintro ⟨a', i, h | ⟨_, h⟩, _⟩ <;> omega⟩⟩
theorem freeTo_row {b a k : Nat} (hk : (row g a).length ≤ k) : FreeTo g f dl b a k ↔ FreeTo g f dl b (a + 1) 0 := by
  have : Blk g f dl b a k ↔ Blk g f dl b (a + 1) 0 := by
    constructor
    · rintro ⟨a', i, h1, h2⟩
      exact ⟨a', i, .inl (by omega), h2⟩
    · rintro ⟨a', i, h1, h2, h3, h4⟩
      refine ⟨a', i, ?_, h2, h3, h4⟩
      by_cases e : a' = a
      · subst e
        refine .inr ⟨rfl, ?_⟩
        have := (List.getElem?_eq_some_iff.1 h3).1
        omega
      · exact .inl (by omega)
  unfold FreeTo
  rw [this]
theorem freeTo_step {b a k : Nat} (ha : a < g.length) (hk : k < (row g a).length) : FreeTo g f dl b a (k + 1) ↔ FreeTo g f dl b a k ∧ ¬ ((row g a)[k] = (b : Int) ∧ ReI g f a ∧ a ∉ dl ∧ backB (idomL g f) (reachL g f) a b = false) := by
  have : Blk g f dl b a (k + 1) ↔ Blk g f dl b a k ∨ ((row g a)[k] = (b : Int) ∧ ReI g f a ∧ a ∉ dl ∧ backB (idomL g f) (reachL g f) a b = false) := by
    constructor
    · rintro ⟨a', i, h1, h2, h3, h4⟩
      by_cases e : a' = a ∧ i = k
      · obtain ⟨rfl, rfl⟩ := e
        rw [List.getElem?_eq_getElem hk] at h3
        injection h3 with h3
        exact .inr ⟨h3, h4⟩
      · exact .inl ⟨a', i, by omega, h2, h3, h4⟩
    · rintro (⟨a', i, h1, h2⟩ | ⟨h1, h2⟩)
      · exact ⟨a', i, by omega, h2⟩
      · exact ⟨a, k, .inr ⟨rfl, by omega⟩, ha, by rw [List.getElem?_eq_getElem hk, h1], h2⟩
  unfold FreeTo
  rw [this]
  constructor
  · rintro ⟨h1, h2⟩; exact ⟨⟨h1, fun k => h2 (.inl k)⟩, fun k => h2 (.inr k)⟩
  · rintro ⟨⟨h1, h2⟩, h3⟩; exact ⟨h1, fun k => k.elim h2 h3⟩
theorem freeTo_end {b : Nat} (hb : b < g.length) : FreeTo g f dl b g.length 0 ↔ free g f dl b := by
  unfold FreeTo free
  constructor
  · rintro ⟨⟨h1, h2⟩, h3⟩
    refine ⟨h1, h2, fun a ha => Classical.byContradiction fun hn => h3 ?_⟩
    obtain ⟨i, hi, e⟩ := List.getElem_of_mem ha.2.1.2.2
    refine ⟨a, i, .inl ha.2.1.1, ha.2.1.1, by rw [List.getElem?_eq_getElem hi, e], ⟨h1.1, ha.1⟩, hn, ?_⟩
    rw [backB_is ha.2.1.1 hb]
    exact decide_eq_false fun k => ha.2.2 k.2
  · rintro ⟨h1, h2, h3⟩
    refine ⟨⟨h1, h2⟩, ?_⟩
    rintro ⟨a, i, k1, k2, k3, k4, k5, k6⟩
    rw [backB_is k2 hb] at k6
    exact k5 (h3 a ⟨k4.2, ⟨k2, hb, List.mem_of_getElem? k3⟩, fun k => (of_decide_eq_false k6) ⟨k4, k⟩⟩)
theorem freeTo_mono {b a : Nat} (ha : a ≤ g.length) (h : ¬ FreeTo g f dl b a 0) : ¬ FreeTo g f dl b g.length 0 := by
  rintro ⟨h1, h2⟩
  refine h ⟨h1, ?_⟩
  rintro ⟨a', i, k1, k2⟩
  exact h2 ⟨a', i, .inl (by omega), k2⟩
/-- The search for the least that may come next. -/
def Srch (g : Gr) (f : Int) (dl : List Nat) (b : Nat) (nx : Int) : Prop := (nx = -1 ∧ ∀ c, c < b → ¬ free g f dl c) ∨ ∃ c, nx = (c : Nat) ∧ nextF g f dl = some c
theorem nextF_first {c : Nat} (hc : c < g.length) (h : free g f dl c) (hn : ∀ d, d < c → ¬ free g f dl d) : nextF g f dl = some c := by
  unfold nextF
  rw [List.find?_eq_some_iff_getElem]
  refine ⟨decide_eq_true h, c, by simpa using hc, by simp, fun j hj => ?_⟩
  simp only [List.getElem_range, Bool.not_eq_true', decide_eq_false_iff_not]
  exact hn j hj
theorem srch_none (h : ∀ c, c < g.length → ¬ free g f dl c) : nextF g f dl = none := by
  unfold nextF
  rw [List.find?_eq_none]
  intro c hc
  have := h c (List.mem_range.1 hc)
  simpa using this
noncomputable def doneL (g : Gr) (dl : List Nat) : List Bool := (List.range g.length).map fun x => decide (x ∈ dl)
theorem doneL_len : (doneL g dl).length = g.length := by simp [doneL]
theorem doneL_at {x : Nat} (h : x < (doneL g dl).length) : (doneL g dl)[x] = decide (x ∈ dl) := by simp [doneL]
theorem doneL_nil : doneL g [] = List.replicate g.length false := by
  apply List.ext_getElem
  · simp [doneL]
  · intro i h1 h2; simp [doneL]
theorem doneL_set {b : Nat} : (doneL g dl).set b true = doneL g (dl ++ [b]) := by
  apply List.ext_getElem
  · simp [doneL]
  · intro i h1 h2
    rw [List.getElem_set]
    simp only [doneL, List.getElem_map, List.getElem_range]
    by_cases e : b = i
    · subst e; rw [if_pos rfl]; exact (decide_eq_true (by simp)).symm
    · rw [if_neg e, decide_eq_decide]
      simp
      exact fun h => absurd h.symm e
noncomputable def cntU (g : Gr) (f : Int) (n : Nat) : Nat := ((List.range n).filter fun x => decide (ReI g f x)).length
theorem cntU_yes {n : Nat} (h : ReI g f n) : cntU g f (n + 1) = cntU g f n + 1 := by
  unfold cntU
  rw [List.range_succ, List.filter_append]
  simp [h]
theorem cntU_no {n : Nat} (h : ¬ ReI g f n) : cntU g f (n + 1) = cntU g f n := by
  unfold cntU
  rw [List.range_succ, List.filter_append]
  have : decide (ReI g f n) = false := decide_eq_false h
  simp only [List.filter_cons, this, List.filter_nil]
  simp
theorem cntU_end : cntU g f g.length = cntR g f := rfl
theorem cntU_le (n : Nat) : cntU g f n ≤ n := by
  unfold cntU
  exact Nat.le_trans (List.length_filter_le _ _) (by simp)
/-- The order under way. -/
structure Ord (g : Gr) (f : Int) (dl : List Nat) : Prop where
  good : Good g f dl
  goes : ordF g f (cntR g f - dl.length) dl = ordL g f
theorem ord_start : Ord g f [] := ⟨Good.nil f, rfl⟩
theorem Ord.full (h : Ord g f dl) (hl : cntR g f ≤ dl.length) : dl = ordL g f := by
  have := h.goes
  rw [show cntR g f - dl.length = 0 by omega] at this
  exact this
theorem Ord.stop (h : Ord g f dl) (hn : nextF g f dl = none) : dl = ordL g f := by
  have := h.goes
  cases e : cntR g f - dl.length with
  | zero => rw [e] at this; exact this
  | succ k => rw [e] at this; unfold ordF at this; rw [hn] at this; exact this
theorem Ord.next {b : Nat} (h : Ord g f dl) (hl : dl.length < cntR g f) (hn : nextF g f dl = some b) : Ord g f (dl ++ [b]) := by
  refine ⟨h.good.snoc (nextF_some hn), ?_⟩
  have := h.goes
  rw [show cntR g f - dl.length = (cntR g f - dl.length - 1) + 1 by omega] at this
  unfold ordF at this
  rw [hn] at this
  rw [List.length_append, List.length_singleton, show cntR g f - (dl.length + 1) = cntR g f - dl.length - 1 by omega]
  exact this
theorem ordL_le : (ordL g f).length ≤ cntR g f := (ordL_good (g := g) f).len
end

/-- What lies in memory as it goes. -/
structure OrdAt (w W : World) (vd vo : Value) (g : Gr) (dl : List Nat) : Prop where
  kept : Kept w W
  done : W.ownsRow w.heap.size 4 1 vd g.length ((doneL g dl).map vb)
  out : W.ownsRow w.heap.size 3 1 vo dl.length (dl.map vn)
theorem OrdAt.push {w W W2 : World} {gd nd cd b : Nat} {o : Obj} {vo vo' : Value} {g : Gr} {dl : List Nat} (h : OrdAt w W (.slice (some ⟨gd, 0, none⟩) nd cd) vo g dl)
    (hg : ((W.setCell ⟨gd, b, none⟩ (.bool true)).alloc o).grownBy W2 vo.ownBlock) (ho : W2.ownsRow w.heap.size 3 1 vo' (dl.length + 1) (dl.map vn ++ [.int .i64 (b : Int)])) :
    OrdAt w W2 (.slice (some ⟨gd, 0, none⟩) nd cd) vo' g (dl ++ [b]) := by
  obtain ⟨g1, g2, gc, g3⟩ := own_ty h.done (g := gd) rfl
  have k1 : Kept w (W.setCell ⟨gd, b, none⟩ (.bool true)) := h.kept.setCell g1 _
  refine ⟨?_, ?_, ?_⟩
  · exact Below.trans (k1.alloc o) (Kept.chg (k1.alloc o).size (chg_grown hg) fun i hi => (own_ty h.out hi).1)
  · rw [← doneL_set, List.map_set]
    refine own_chg ((own_set h.done (.bool true)).alloc o) (chg_grown hg) fun q hq hi => ?_
    have : gd = q := by simpa [Value.ownBlock] using hq
    subst this
    obtain ⟨_, _, c, hc⟩ := own_ty h.out hi
    exact ne_of_ty g3 hc (by decide) rfl
  · rw [List.map_append, List.length_append]; exact ho
theorem OrdAt.keep {w W W' : World} {vd vo : Value} {g : Gr} {dl : List Nat} (h : OrdAt w W vd vo g dl) (hk : Kept W W') : OrdAt w W' vd vo g dl := ⟨h.kept.trans hk, own_kept h.done hk, own_kept h.out hk⟩
end Go.Proofs.YtpkebokfbigggaaDoor.Shp
