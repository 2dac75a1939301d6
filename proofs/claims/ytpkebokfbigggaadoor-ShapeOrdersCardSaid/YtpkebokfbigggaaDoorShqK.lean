/-
  Package shape: last.
-/
import Derived.Test.YtpkebokfbigggaaDoorShqJ
namespace Go.Proofs.YtpkebokfbigggaaDoor.Shp
open Go.RowKit Go.Shelf
open Classical
attribute [local go_sem] Oper.semAt_some

/-! Plain: the nearest that dominates, by how many do. -/
theorem filter_or {l : List Nat} (hn : l.Nodup) {b : Nat} (hb : b ∈ l) {q : Nat → Bool} (hq : q b = false) : (l.filter fun a => decide (a = b) || q a).length = (l.filter q).length + 1 := by
  induction l with
  | nil => cases hb
  | cons x r ih =>
    have hn' := List.nodup_cons.1 hn
    rcases List.mem_cons.1 hb with e | hb'
    · subst e
      have e2 : r.filter (fun a => decide (a = b) || q a) = r.filter q := List.filter_congr fun a ha => by
        have : a ≠ b := fun e => by subst e; exact hn'.1 ha
        simp [this]
      simp [List.filter_cons, hq, e2]
    · have hx : x ≠ b := fun e => by subst e; exact hn'.1 hb'
      have i := ih hn'.2 hb'
      cases h : q x <;> simp [List.filter_cons, h, hx, i]
theorem idom_cnt {g : Gr} {f a b : Nat} (h : IsIdom g f a b) : cnt g f b = cnt g f a + 1 := by
  have ha : a ∈ List.range g.length := List.mem_range.2 h.1.lt.lt
  have := filter_or (List.nodup_range (n := g.length)) ha (q := fun d => decide (SDom g f d a)) (decide_eq_false fun k => k.1 rfl)
  unfold cnt sdL
  rw [← this]
  congr 1
  refine List.filter_congr fun d _ => ?_
  rw [Bool.eq_iff_iff]
  simp only [Bool.or_eq_true, decide_eq_true_eq]
  exact ⟨fun k => h.2 d k, fun k => by rcases k with e | k; exact e ▸ h.1; exact k.trans h.1⟩
theorem cnt_idom {g : Gr} {f a b : Nat} (h : SDom g f a b) (hc : cnt g f a + 1 = cnt g f b) : IsIdom g f a b := by
  have hf : f ≠ b := fun e => by subst e; exact no_sdom_start h
  obtain ⟨c, hc'⟩ := idom_ex h.2.1 hf
  have h1 := idom_cnt hc'
  rcases hc'.2 a h with e | k
  · exact e ▸ hc'
  · have := k.cnt_lt; omega
theorem domL_len (g : Gr) (f : Int) : (domL g f).length = g.length := byL_len _ _
theorem domL_at {g : Gr} {f : Int} {k : Nat} (h : k < (domL g f).length) : (domL g f)[k] = setN g.length fun a => dmB g f a k := byL_at h
noncomputable def deepN (g : Gr) (f : Int) (b : Nat) : Nat := (bitsL (setN g.length fun a => dmB g f a b)).length
theorem deep_no {g : Gr} {f : Int} {b : Nat} (h : ¬ ReI g f b) : deepN g f b = 0 := by
  unfold deepN
  rw [setN_none (p := fun a => dmB g f a b) fun a _ => decide_eq_false fun k => h ⟨k.1, k.2.1⟩, bitsL_zero]; rfl
theorem deep_yes {g : Gr} (hl : g.length ≤ 64) {f : Int} {b : Nat} (h : ReI g f b) : deepN g f b = cnt g f.toNat b + 1 := by
  unfold deepN
  rw [setN_bitsL hl]
  have := filter_or (List.nodup_range (n := g.length)) (List.mem_range.2 h.2.lt) (q := fun d => decide (SDom g f.toNat d b)) (decide_eq_false fun k => k.1 rfl)
  unfold cnt sdL
  rw [← this]
  congr 1
  refine List.filter_congr fun a _ => ?_
  rw [Bool.eq_iff_iff]
  simp only [dmB, Bool.or_eq_true, decide_eq_true_eq]
  exact ⟨fun k => k.2.2, fun k => ⟨h.1, h.2, k⟩⟩
/-- The test of the program. -/
theorem near_is {g : Gr} (hl : g.length ≤ 64) {f : Int} {a b : Nat} (h : dmB g f a b = true) : ((deepN g f a : Int) = (deepN g f b : Int) - 1) ↔ IsIdom g f.toNat a b := by
  have h1 := dom_re h
  unfold dmB at h
  rw [decide_eq_true_eq] at h
  obtain ⟨k1, k2, k3⟩ := h
  rw [deep_yes hl h1, deep_yes hl ⟨k1, k2⟩]
  constructor
  · intro k
    rcases k3 with e | k3
    · subst e; omega
    · exact cnt_idom k3 (by omega)
  · intro k
    have := idom_cnt k
    omega
theorem deep_le {g : Gr} (hl : g.length ≤ 64) (f : Int) (b : Nat) : deepN g f b ≤ 64 := bitsL_len _
/-- What stands at b when pre was gone through. -/
noncomputable def nearV (g : Gr) (f : Int) (pre : List Nat) (b : Nat) : Int := if 0 ≤ f ∧ ∃ a ∈ pre, IsIdom g f.toNat a b then idomV g f b else -1
theorem near_nil (g : Gr) (f : Int) (b : Nat) : nearV g f [] b = -1 := by unfold nearV; rw [if_neg]; rintro ⟨_, a, h, _⟩; cases h
theorem near_yes {g : Gr} {f : Int} (hf : 0 ≤ f) {pre : List Nat} {a b : Nat} (h : IsIdom g f.toNat a b) : nearV g f (pre ++ [a]) b = a := by
  unfold nearV
  rw [if_pos ⟨hf, a, by simp, h⟩, idomV_yes hf h]
theorem near_no {g : Gr} {f : Int} {pre : List Nat} {a b : Nat} (h : ¬ IsIdom g f.toNat a b) : nearV g f (pre ++ [a]) b = nearV g f pre b := by
  unfold nearV
  have : (0 ≤ f ∧ ∃ c ∈ pre ++ [a], IsIdom g f.toNat c b) ↔ (0 ≤ f ∧ ∃ c ∈ pre, IsIdom g f.toNat c b) := by
    constructor
    · rintro ⟨h1, c, h2, h3⟩
      rcases List.mem_append.1 h2 with k | k
      · exact ⟨h1, c, k, h3⟩
      · rw [List.mem_singleton] at k; subst k; exact absurd h3 h
    · rintro ⟨h1, c, h2, h3⟩; exact ⟨h1, c, by simp [h2], h3⟩
  simp only [this]
theorem near_end {g : Gr} (hl : g.length ≤ 64) {f : Int} {b : Nat} : nearV g f (bitsL (setN g.length fun a => dmB g f a b)) b = idomV g f b := by
  unfold nearV
  rw [setN_bitsL hl]
  by_cases h : 0 ≤ f ∧ ∃ a, IsIdom g f.toNat a b
  · rw [if_pos]
    obtain ⟨h1, a, h2⟩ := h
    exact ⟨h1, a, List.mem_filter.2 ⟨List.mem_range.2 h2.1.lt.lt, decide_eq_true ⟨h1, h2.1.2.1, .inr h2.1⟩⟩, h2⟩
  · rw [if_neg (fun k => h ⟨k.1, k.2.imp fun _ q => q.2⟩), idomV_no h]
/-- The rows: of the first k what is told, of k what pre tells, else -1. -/
noncomputable def lastL (g : Gr) (f : Int) (k : Nat) (pre : List Nat) : List Int := (List.range g.length).map fun j => if j < k then idomV g f j else if j = k then nearV g f pre j else -1
noncomputable def deepL (g : Gr) (f : Int) (k : Nat) : List Int := (List.range g.length).map fun j => if j < k then (deepN g f j : Int) else 0
theorem alloc4 (w : World) (A B C E : Obj) : Kept w ((((w.alloc A).alloc B).alloc C).alloc E).drew ∧ ((((w.alloc A).alloc B).alloc C).alloc E).drew.heap[w.heap.size]? = some A ∧ ((((w.alloc A).alloc B).alloc C).alloc E).drew.heap[w.heap.size + 1]? = some B ∧
    ((((w.alloc A).alloc B).alloc C).alloc E).drew.heap[w.heap.size + 1 + 1]? = some C ∧ ((((w.alloc A).alloc B).alloc C).alloc E).drew.heap[w.heap.size + 1 + 1 + 1]? = some E := by
  have hk := fun (W : World) o => (Kept.refl W).alloc o
  have e1 : (w.alloc A).heap.size = w.heap.size + 1 := by simp
  have e2 : ((w.alloc A).alloc B).heap.size = w.heap.size + 1 + 1 := by simp
  have e3 : (((w.alloc A).alloc B).alloc C).heap.size = w.heap.size + 1 + 1 + 1 := by simp
  refine ⟨((((Kept.refl w).alloc A).alloc B).alloc C).alloc E |>.drew, ?_, ?_, ?_, ?_⟩
  · exact kept_heap (hk _ E) (kept_heap (hk _ C) (kept_heap (hk _ B) (heap_alloc_new w A)))
  · have := kept_heap (hk _ E) (kept_heap (hk _ C) (heap_alloc_new (w.alloc A) B)); rwa [e1] at this
  · have := kept_heap (hk _ E) (heap_alloc_new ((w.alloc A).alloc B) C); rwa [e2] at this
  · have := heap_alloc_new (((w.alloc A).alloc B).alloc C) E; rwa [e3] at this
noncomputable def oneL (n k : Nat) : List Int := (List.range n).map fun j => if j < k then (-1 : Int) else 0
theorem oneL_zero (n : Nat) : oneL n 0 = List.replicate n 0 := by
  apply List.ext_getElem (by simp [oneL])
  intro j h1 h2
  simp [oneL]
theorem deepL_zero (g : Gr) (f : Int) : deepL g f 0 = List.replicate g.length 0 := by
  apply List.ext_getElem (by simp [deepL])
  intro j h1 h2
  simp [deepL]
theorem oneL_len (n k : Nat) : (oneL n k).length = n := by simp [oneL]
theorem deepL_len (g : Gr) (f : Int) (k : Nat) : (deepL g f k).length = g.length := by simp [deepL]
theorem lastL_len (g : Gr) (f : Int) (k : Nat) (pre : List Nat) : (lastL g f k pre).length = g.length := by simp [lastL]
theorem oneL_set {n k : Nat} (hk : k < n) : (oneL n k).set k (-1) = oneL n (k + 1) := by
  apply List.ext_getElem (by simp [oneL])
  intro j h1 h2
  rw [List.getElem_set]
  simp only [oneL, List.getElem_map, List.getElem_range]
  by_cases e : k = j
  · subst e; simp
  · rw [if_neg e]
    by_cases h : j < k
    · rw [if_pos h, if_pos (by omega)]
    · rw [if_neg h, if_neg (by omega)]
theorem deepL_set {g : Gr} {f : Int} {k : Nat} : (deepL g f k).set k (deepN g f k : Int) = deepL g f (k + 1) := by
  apply List.ext_getElem (by simp [deepL])
  intro j h1 h2
  rw [List.getElem_set]
  simp only [deepL, List.getElem_map, List.getElem_range]
  by_cases e : k = j
  · subst e; simp
  · rw [if_neg e]
    by_cases h : j < k
    · rw [if_pos h, if_pos (by omega)]
    · rw [if_neg h, if_neg (by omega)]
theorem oneL_end (g : Gr) (f : Int) : oneL g.length g.length = lastL g f 0 [] := by
  apply List.ext_getElem (by simp [oneL, lastL])
  intro j h1 h2
  simp only [oneL, lastL, List.getElem_map, List.getElem_range]
  rw [if_pos (by simpa [oneL] using h1), if_neg (by omega)]
  split
  · rw [near_nil]
  · rfl
theorem lastL_step (g : Gr) (hl : g.length ≤ 64) (f : Int) (k : Nat) : lastL g f k (bitsL (setN g.length fun a => dmB g f a k)) = lastL g f (k + 1) [] := by
  apply List.ext_getElem (by simp [lastL])
  intro j h1 h2
  simp only [lastL, List.getElem_map, List.getElem_range]
  by_cases e : j = k
  · subst e
    rw [if_neg (by omega), if_pos rfl, if_pos (by omega), near_end hl]
  · by_cases h : j < k
    · rw [if_pos h, if_pos (by omega)]
    · rw [if_neg h, if_neg e, if_neg (by omega)]
      split
      · rw [near_nil]
      · rfl
theorem lastL_end (g : Gr) (f : Int) : lastL g f g.length [] = idomL g f := by
  apply List.ext_getElem (by simp [lastL, idomL])
  intro j h1 h2
  simp only [lastL, idomL, List.getElem_map, List.getElem_range]
  rw [if_pos (by simpa [lastL] using h1)]
theorem lastL_yes {g : Gr} {f : Int} (hf : 0 ≤ f) {k i : Nat} (hk : k < g.length) {pre : List Nat} (h : IsIdom g f.toNat i k) : (lastL g f k pre).set k (i : Int) = lastL g f k (pre ++ [i]) := by
  apply List.ext_getElem (by simp [lastL])
  intro j h1 h2
  rw [List.getElem_set]
  simp only [lastL, List.getElem_map, List.getElem_range]
  by_cases e : k = j
  · subst e; rw [if_pos rfl, if_neg (by omega), if_pos rfl, near_yes hf h]
  · rw [if_neg e]
    split
    · rfl
    · rw [if_neg (Ne.symm e), if_neg (Ne.symm e)]
theorem lastL_no {g : Gr} {f : Int} {k i : Nat} {pre : List Nat} (h : ¬ IsIdom g f.toNat i k) : lastL g f k pre = lastL g f k (pre ++ [i]) := by
  apply List.ext_getElem (by simp [lastL])
  intro j h1 h2
  simp only [lastL, List.getElem_map, List.getElem_range]
  split
  · rfl
  · split
    · rename_i e; subst e; rw [near_no h]
    · rfl
structure LsI (w W : World) (b3 b4 gi gd n : Nat) (X Y : List Int) : Prop where
  kept : Kept w W
  c3 : W.heap[b3]? = some (.cells #[.slice (some ⟨gi, 0, none⟩) n n] 23 (0, 0))
  c4 : W.heap[b4]? = some (.cells #[.slice (some ⟨gd, 0, none⟩) n n] 23 (0, 0))
  own3 : W.ownsRow w.heap.size 3 1 (.slice (some ⟨gi, 0, none⟩) n n) n (X.map vi)
  own4 : W.ownsRow w.heap.size 3 1 (.slice (some ⟨gd, 0, none⟩) n n) n (Y.map vi)
  ne : gi ≠ gd
  low : w.heap.size ≤ b3 ∧ w.heap.size ≤ b4
theorem LsI.keep {w W W' : World} {b3 b4 gi gd n : Nat} {X Y : List Int} (h : LsI w W b3 b4 gi gd n X Y) (hk : Kept W W') : LsI w W' b3 b4 gi gd n X Y :=
  ⟨h.kept.trans hk, kept_heap hk h.c3, kept_heap hk h.c4, own_kept h.own3 hk, own_kept h.own4 hk, h.ne, h.low⟩
theorem LsI.lows {w W : World} {b3 b4 gi gd n : Nat} {X Y : List Int} (h : LsI w W b3 b4 gi gd n X Y) : w.heap.size ≤ gi ∧ w.heap.size ≤ gd ∧ gi ≠ b3 ∧ gi ≠ b4 ∧ gd ≠ b3 ∧ gd ≠ b4 := by
  obtain ⟨h1, _, c, hc⟩ := own_ty h.own3 rfl
  obtain ⟨h2, _, c', hc'⟩ := own_ty h.own4 rfl
  exact ⟨h1, h2, ne_of_ty hc h.c3 (by decide), ne_of_ty hc h.c4 (by decide), ne_of_ty hc' h.c3 (by decide), ne_of_ty hc' h.c4 (by decide)⟩
theorem LsI.set3 {w W : World} {b3 b4 gi gd n : Nat} {X Y : List Int} (h : LsI w W b3 b4 gi gd n X Y) (j : Nat) (z : Int) : LsI w (W.setCell ⟨gi, j, none⟩ (.int .i64 z)) b3 b4 gi gd n (X.set j z) Y := by
  obtain ⟨q1, q2, q3, q4, q5, q6⟩ := h.lows
  refine ⟨h.kept.setCell q1 _, (heap_setCell_other _ _ _ _ q3.symm).trans h.c3, (heap_setCell_other _ _ _ _ q4.symm).trans h.c4, ?_, own_chg h.own4 (chg_set _ _ _ _) (fun g e => ?_), h.ne, h.low⟩
  · have := own_set h.own3 (j := j) (.int .i64 z)
    rw [List.map_set]; exact this
  · simp [Value.ownBlock] at e; subst e; exact h.ne.symm
theorem LsI.set4 {w W : World} {b3 b4 gi gd n : Nat} {X Y : List Int} (h : LsI w W b3 b4 gi gd n X Y) (j : Nat) (z : Int) : LsI w (W.setCell ⟨gd, j, none⟩ (.int .i64 z)) b3 b4 gi gd n X (Y.set j z) := by
  obtain ⟨q1, q2, q3, q4, q5, q6⟩ := h.lows
  refine ⟨h.kept.setCell q2 _, (heap_setCell_other _ _ _ _ q5.symm).trans h.c3, (heap_setCell_other _ _ _ _ q6.symm).trans h.c4, own_chg h.own3 (chg_set _ _ _ _) (fun g e => ?_), ?_, h.ne, h.low⟩
  · simp [Value.ownBlock] at e; subst e; exact h.ne
  · have := own_set h.own4 (j := j) (.int .i64 z)
    rw [List.map_set]; exact this
theorem own_of_made {w W : World} {g n : Nat} (h : W.heap[g]? = some (.cells (madeCells #[.int .i64 0] n) 3 (0, 0))) (hn : n ≤ 100000) (hg : w.heap.size ≤ g) : W.ownsRow w.heap.size 3 1 (.slice (some ⟨g, 0, none⟩) n n) n ((List.replicate n (0 : Int)).map vi) :=
  ⟨by simp, .inr ⟨g, n, _, rfl, hg, h, Nat.le_refl _, by simp only [maxLen]; omega, by rw [size_madeCells]; omega, by rw [made_list]; simp [vi]⟩⟩
theorem ls_of {w W : World} {b3 b4 gi gd n : Nat} (hn : n ≤ 100000) (hk : Kept w W) (h3 : W.heap[b3]? = some (.cells #[.slice (some ⟨gi, 0, none⟩) n n] 23 (0, 0))) (h4 : W.heap[b4]? = some (.cells #[.slice (some ⟨gd, 0, none⟩) n n] 23 (0, 0)))
    (hi : W.heap[gi]? = some (.cells (madeCells #[.int .i64 0] n) 3 (0, 0))) (hd : W.heap[gd]? = some (.cells (madeCells #[.int .i64 0] n) 3 (0, 0))) (hne : gi ≠ gd) (l1 : w.heap.size ≤ b3) (l2 : w.heap.size ≤ b4) (l3 : w.heap.size ≤ gi) (l4 : w.heap.size ≤ gd) :
    LsI w W b3 b4 gi gd n (List.replicate n 0) (List.replicate n 0) := ⟨hk, h3, h4, own_of_made hi hn l3, own_of_made hd hn l4, hne, l1, l2⟩
/-! A function whose loops over sets stand in a loop of its own: the marks. -/
def mkD (D : Nat) : Deferred := { target := .collected D, args := #[] }
structure MarksL (lo hi : Nat) (W : World) (l : List Nat) : Prop where
  nd : l.Nodup
  is : ∀ D ∈ l, lo ≤ D ∧ D < hi ∧ W.heap[D]? = some (.deferred (some []))
theorem leaves_marks {fn : Func} {tmps : Array Value} {R : Ending → World → Prop} : ∀ (l : List Nat) (W : World), l.Nodup → (∀ D ∈ l, W.heap[D]? = some (.deferred (some []))) →
    (∀ W', Chg (fun k => k ∈ l) W W' → ∃ v, (results fn tmps).run Tryd.prog W' = .ok v W' ∧ R (.returned v) W') → LeavesInM FW 0 Tryd.prog fn tmps R (l.map mkD) .returning W
  | [], W, _, _, h => by
    obtain ⟨v, h1, h2⟩ := h W (Chg.refl _ _)
    exact ⟨v, h1, h2⟩
  | D :: l, W, hn, hk, h => by
    have hn' := List.nodup_cons.1 hn
    refine ⟨by simp, .inl ⟨_, _, rfl, run_takeDeferred (hk D (by simp)), leaves_marks l _ hn'.2 (fun D' hD' => ?_) fun W' hc => ?_⟩⟩
    · exact (World.putObj_heap_other (fun e => by subst e; exact hn'.1 hD')).trans (hk D' (by simp [hD']))
    · refine h W' ?_
      have h1 := chg_putObj W D (.deferred none)
      exact ⟨hc.os.trans h1.os, hc.tape.trans h1.tape, hc.output.trans h1.output, Nat.le_trans h1.size hc.size, fun k hk hnk => (hc.block k (Nat.lt_of_lt_of_le hk h1.size) fun q => hnk (List.mem_cons_of_mem _ q)).trans (h1.block k hk fun q => hnk (by subst q; simp))⟩
theorem MarksL.nil (lo hi : Nat) (W : World) : MarksL lo hi W [] := ⟨List.nodup_nil, by simp⟩
theorem MarksL.kept {lo hi : Nat} {W W' : World} {l : List Nat} (h : MarksL lo hi W l) (hk : Kept W W') : MarksL lo hi W' l := ⟨h.nd, fun D hD => ⟨(h.is D hD).1, (h.is D hD).2.1, kept_heap hk (h.is D hD).2.2⟩⟩
theorem MarksL.chg {S : Nat → Prop} {lo hi : Nat} {W W' : World} {l : List Nat} (h : MarksL lo hi W l) (hc : Chg S W W') (hs : ∀ k, S k → Blkc W k) : MarksL lo hi W' l := ⟨h.nd, fun D hD => ⟨(h.is D hD).1, (h.is D hD).2.1, hc.heap (h.is D hD).2.2 fun k => by
  obtain ⟨cs, t, fr, e⟩ := hs D k
  rw [(h.is D hD).2.2] at e
  cases e⟩⟩
theorem MarksL.high {lo hi hi' : Nat} {W : World} {l : List Nat} (h : MarksL lo hi W l) (hh : hi ≤ hi') : MarksL lo hi' W l := ⟨h.nd, fun D hD => ⟨(h.is D hD).1, Nat.lt_of_lt_of_le (h.is D hD).2.1 hh, (h.is D hD).2.2⟩⟩
theorem MarksL.snoc {lo hi D : Nat} {W : World} {l : List Nat} (h : MarksL lo hi W l) (h1 : lo ≤ hi) (h2 : hi ≤ D) (hk : W.heap[D]? = some (.deferred (some []))) : MarksL lo (D + 1) W (D :: l) :=
  ⟨List.nodup_cons.2 ⟨fun k => by have := (h.is D k).2.1; omega, h.nd⟩, fun D' hD' => by
    rcases List.mem_cons.1 hD' with e | k
    · subst e; exact ⟨by omega, by omega, hk⟩
    · have := h.is D' k; exact ⟨this.1, by omega, this.2.2⟩⟩
theorem stb_marks (lo hi B : Nat) (hB : hi ≤ B) (l : List Nat) : Stb B (fun W => MarksL lo hi W l) := fun _ _ _ h hc hs => ⟨h.nd, fun D hD => ⟨(h.is D hD).1, (h.is D hD).2.1, hc.heap (h.is D hD).2.2 fun k => by
  have h1 := (hs D k).1
  have h2 := (h.is D hD).2.1
  omega⟩⟩
theorem stb_ls (w : World) {B : Nat} (h : w.heap.size ≤ B) (b3 b4 gi gd n : Nat) (X Y : List Int) : Stb B (fun W => LsI w W b3 b4 gi gd n X Y) := fun S W W' hi hc hs =>
  ⟨stb_kept w h S W W' hi.kept hc hs, stb_cells B _ _ _ _ S W W' hi.c3 hc hs, stb_cells B _ _ _ _ S W W' hi.c4 hc hs, stb_own B _ _ _ _ _ S W W' hi.own3 hc hs, stb_own B _ _ _ _ _ S W W' hi.own4 hc hs, hi.ne, hi.low⟩
theorem wp_loop_k {P : Program} {Q : Exit → Act → World → Prop} {a : Act} {w : World} {c : Code} (I : Nat → Act → World → Prop) (n₀ : Nat) (h₀ : I n₀ a w)
    (round : ∀ n a w, I n a w → ∀ K : Act → World → Prop, (∀ a' w' n', n' < n → I n' a' w' → K a' w') → c.wp P (Exit.then K Q) a w) : (Code.loop c).wp P Q a w :=
  wp_loop_ghost I n₀ h₀ fun n a w hI => round n a w hI _ fun a' w' n' h1 h2 => ⟨n', h1, h2⟩
theorem wpList_load_set {ops : Array Oper} {rest : List Oper} {o : Oper} {a : Act} {w : World} {Q : Exit → Act → World → Prop} (hgd : o.guard = none) (x : Operand) (ho : o.op = .load 42 x)
    (b s z : Nat) (hx : a.eval x = .pointer (some ⟨b, s, none⟩)) (hb : SetAt w b s z) (h : wpList Tryd.prog ops Q rest (a.put o.dst (.agg (setC z))) w) : wpList Tryd.prog ops Q (o :: rest) a w :=
  wpList_plain hgd fun K hK => by
    unfold Oper.wp execOp
    simp only [ho, hx, Instr.loadAt, Instr.sureAddr, Sem.run_bind, Sem.run_pure, Result.andThen_ok, hb.load]
    exact hK _ _ h
set_option maxRecDepth 100000 in
set_option maxHeartbeats 16000000 in
theorem last_any (w : World) (bb : Nat) (g : Gr) (f : Int) (hg : Gs w bb (domL g f)) (hl : g.length ≤ 30) (hT : Tab w) :
    Calls Tryd.prog 27 #[.slice (some ⟨bb, 0, none⟩) g.length g.length] w fun e w' => ∃ u, e = .returned u ∧ Hid (Kept w w' ∧ w'.ownsRow w.heap.size 3 1 u g.length ((idomL g f).map vi)) := by
  have HG := Lib.hid hg
  have HT := Lib.hid hT
  have hm := made_ints g.length (by omega)
  clear hg hT
  refine (callsIn_wide (n := 0)).1 (callsIn_of_wp_marks Tryd.func27 rfl trivial ?_ rfl)
  simp only [Tryd.ntmps27, List.size_toArray, List.length_cons, List.length_nil, Nat.reduceAdd, Nat.reduceSub, Array.replicate_succ, Array.replicate_zero, List.push_toArray, List.append_toArray, List.nil_append, List.cons_append]
  refine wpIn_wide.2 ?_
  go_upto_region 1 with fail
  refine Code.wp_mono (Q := fun e a W => e = .normal ∧ ∃ b3 b4 gi gd, LsI w W b3 b4 gi gd g.length (List.replicate g.length 0) (List.replicate g.length 0) ∧ a = { tmps := #[.slice (some ⟨bb, 0, none⟩) g.length g.length, undef, .slice none 0 0, .pointer (some ⟨b3, 0, none⟩), .pointer (some ⟨b4, 0, none⟩), undef, undef, undef, .slice (some ⟨bb, 0, none⟩) g.length g.length, .int .i64 (g.length : Int), .slice (some ⟨gi, 0, none⟩) g.length g.length, .slice (some ⟨bb, 0, none⟩) g.length g.length, .int .i64 (g.length : Int), .slice (some ⟨gd, 0, none⟩) g.length g.length, undef, undef, undef, undef, undef, undef, undef, undef, undef, undef, undef, undef, undef, undef, undef, undef, undef, undef, undef, undef, undef, undef, undef, undef, undef, undef, undef, undef, undef, undef, undef, undef, undef, undef, undef, undef, undef, undef, undef, undef, undef, undef, undef, undef], defers := [] }) ?_ ?_
  · rintro e a W ⟨rfl, b3, b4, gi, gd, H, rfl⟩
    have hst : Hid (LsI w W b3 b4 gi gd g.length (oneL g.length 0) (deepL g f 0)) := Lib.hid (by rw [oneL_zero, deepL_zero]; exact H)
    clear H hm
    dsimp only
    go_wp2
    go_loopg [16] (g.length) (fun m i wz => ∃ k : Nat, m = g.length - k ∧ k ≤ g.length ∧ i = .int .i64 (k : Int) ∧ Hid (LsI w wz b3 b4 gi gd g.length (oneL g.length k) (deepL g f k)))
    case atStart => exact ⟨0, by omega, by omega, rfl, hst⟩
    case round =>
      clear hst
      obtain ⟨k, rfl, hk, rfl, HK⟩ := hrel
      by_cases hlt : k < g.length
      case neg =>
        obtain rfl : k = g.length := by omega
        rw [oneL_end g f] at HK
        clear hlt
        have hst2 : Hid (LsI w wr b3 b4 gi gd g.length (lastL g f 0 []) (deepL g f g.length)) := HK
        clear HK
        go_wp2
        refine wp_loop_k (fun m a W => ∃ (k : Nat) (l : List Nat) (s6 s34 s35 s36 s37 s38 s39 s40 s56 : Value), a = { tmps := #[.slice (some ⟨bb, 0, none⟩) g.length g.length, undef, .slice none 0 0, .pointer (some ⟨b3, 0, none⟩), .pointer (some ⟨b4, 0, none⟩), u5, s6, undef, .slice (some ⟨bb, 0, none⟩) g.length g.length, .int .i64 (g.length : Int), .slice (some ⟨gi, 0, none⟩) g.length g.length, .slice (some ⟨bb, 0, none⟩) g.length g.length, .int .i64 (g.length : Int), .slice (some ⟨gd, 0, none⟩) g.length g.length, .slice (some ⟨bb, 0, none⟩) g.length g.length, .int .i64 (g.length : Int), .int .i64 (g.length : Int), .bool false, u18, u19, u20, u21, u22, u23, u24, u25, u26, u27, u28, u29, u30, .slice (some ⟨bb, 0, none⟩) g.length g.length, .int .i64 (g.length : Int), .int .i64 (k : Int), s34, s35, s36, s37, s38, s39, s40, undef, undef, undef, undef, undef, undef, undef, undef, undef, undef, undef, undef, undef, undef, undef, s56, undef], defers := l.map mkD } ∧ m = g.length - k ∧ k ≤ g.length ∧ Hid (LsI w W b3 b4 gi gd g.length (lastL g f k []) (deepL g f g.length)) ∧ Hid (MarksL w.heap.size W.heap.size W l)) g.length
          ⟨0, [], _, _, _, _, _, _, _, _, _, rfl, by omega, by omega, hst2, Lib.hid (MarksL.nil _ _ _)⟩ ?_
        clear hst2
        rintro m a W ⟨k, l, s6, s34, s35, s36, s37, s38, s39, s40, s56, rfl, rfl, hk2, HK, HM⟩ KK hKK
        have HKK := Lib.hid hKK
        clear hKK
        dsimp only
        by_cases hlt : k < g.length
        case neg =>
          obtain rfl : k = g.length := by omega
          rw [lastL_end] at HK
          have c3 := bx_cell HK.out.c3 0 _ rfl
          clear hlt
          go_wp2
          refine leaves_marks l W HM.out.nd (fun D hD => (HM.out.is D hD).2.2) fun W' hc => ⟨_, results_tmp rfl _ _ _, _, rfl, Lib.hid ⟨Kept.trans_chg HK.out.kept hc fun D hD => (HM.out.is D hD).1, own_chg HK.out.own3 hc fun b hb hin => ?_⟩⟩
          obtain ⟨_, _, c, hcs⟩ := own_ty HK.out.own3 hb
          have := (HM.out.is b hin).2.2
          rw [hcs] at this
          cases this
        case pos =>
          have hzl : k < (domL g f).length := by rw [domL_len]; exact hlt
          obtain ⟨z, hz⟩ : ∃ z, (domL g f)[k] = z := ⟨_, rfl⟩
          have hzp : z < 2 ^ g.length := by rw [← hz, domL_at]; exact setN_lt _ _
          have hzb : z < 4294967296 := Nat.lt_of_lt_of_le hzp (Nat.pow_le_pow_right (n := 2) (j := 32) (by decide) (by omega))
          have HZs := Lib.hid (show z = setN g.length fun a => dmB g f a k from by rw [← hz, domL_at])
          have HZ := Lib.hid (fun W (h : Kept w W) => show SetAt W bb (k * 32) z from by have := (HG.out.kept h).at hzl; rwa [hz] at this)
          clear hz hzl
          have c6 := bx_cell (heap_alloc_new W (.cells #[.int .i64 (k : Int)] 3)) 0 _ rfl
          have HA := Lib.hid (heap_alloc_new W (.cells #[.int .i64 (k : Int)] 3))
          have hk6 := Lib.hid ((Kept.refl W).alloc (.cells #[.int .i64 (k : Int)] 3))
          go_upto_region 10 with fail
          generalize hWn : W.alloc (.cells #[.int .i64 (k : Int)] 3) = W6 at *
          generalize hb6 : W.heap.size = b6 at *
          have HK6 := Lib.hid (HK.out.keep hk6.out)
          have hs6 : b6 < W6.heap.size := by rw [← hb6, ← hWn]; simp
          have HM6 := Lib.hid ((HM.out.kept hk6.out).high (Nat.le_of_lt hs6))
          have hgb6 : gi < b6 := by have h : gi < W.heap.size := (own_ty HK.out.own3 rfl).2.1; omega
          have hlwb : w.heap.size ≤ b6 := by rw [← hb6]; exact HK.out.kept.size
          clear HK HM hWn
          go_wp2_with (refine wpList_load_set rfl _ rfl bb (k * 32) z rfl (HZ.out _ HK6.out.kept) ?_)
          clear c6
          have hst6 : Hid (LsI w W6 b3 b4 gi gd g.length (lastL g f k []) (deepL g f g.length) ∧ W6.heap[b6]? = some (.cells #[.int .i64 (k : Int)] 3 (0, 0)) ∧ MarksL w.heap.size W6.heap.size W6 l) := Lib.hid ⟨HK6.out, HA.out, HM6.out⟩
          clear HK6 HA HM6 hk6
          have hlw6 : w.heap.size ≤ W6.heap.size := by omega
          refine (wpIn_wide (n := 0)).1 (range_out (x := z) (I := fun pre W' => LsI w W' b3 b4 gi gd g.length (lastL g f k pre) (deepL g f g.length) ∧ W'.heap[b6]? = some (.cells #[.int .i64 (k : Int)] 3 (0, 0)) ∧ MarksL w.heap.size W6.heap.size W' l) (Ix := fun _ _ _ => False) hzb rfl
            (Owes.fix (af := ?af) rfl (fun pre => (stb_ls w hlw6 _ _ _ _ _ _ _).and ((stb_cells _ _ _ _ _).and (stb_marks _ _ _ (Nat.le_refl _) _))) (fun _ _ => Stb.pure _ _) (fun _ _ h => HT.out.kept h.1.kept) ?assign ?body) hst6.out ?done ?stop)
          case assign =>
            intro l2 i W' K hK
            gi_wp2
            exact hK
          case body =>
            rintro l2 pre i W' hB2 - ⟨hi', hcx', hm'⟩ hp
            have him : i ∈ bitsL z := by obtain ⟨s, hs⟩ := hp; rw [← hs]; simp
            have hin : i < g.length := bitsL_lt hzp him
            have hdm : dmB g f i k = true := by
              rw [HZs.out, setN_bitsL (by omega), List.mem_filter] at him
              exact him.2
            have hnear := near_is (by omega) hdm
            have hdl : ((deepL g f g.length).map vi).length = g.length := by rw [List.length_map, deepL_len]
            obtain ⟨_, e, _, _, _, ci, _⟩ := own_at hi'.own4 (j := i) (by rw [hdl]; exact hin)
            injection e with e
            injection e with e
            subst e
            obtain ⟨_, e, _, _, _, ck, _⟩ := own_at hi'.own4 (j := k) (by rw [hdl]; exact hlt)
            injection e with e
            injection e with e
            subst e
            have di : ((deepL g f g.length).map vi)[i]'(by rw [hdl]; exact hin) = .int .i64 (deepN g f i : Int) := by simp [deepL, vi, hin]
            have dk : ((deepL g f g.length).map vi)[k]'(by rw [hdl]; exact hlt) = .int .i64 (deepN g f k : Int) := by simp [deepL, vi, hlt]
            rw [di] at ci
            rw [dk] at ck
            have l1 := deep_le (g := g) (by omega) f i
            have l2' := deep_le (g := g) (by omega) f k
            obtain ⟨q, hq⟩ : ∃ q : Bool, ((deepN g f i : Int) == (deepN g f k : Int) - 1) = q := ⟨_, rfl⟩
            have hwr : IntKind.i64.wrap ((deepN g f k : Int) - 1) = (deepN g f k : Int) - 1 := IntWalk.i64_in _ (by omega)
            have c4 := bx_cell hi'.c4 0 _ rfl
            have c6 := bx_cell hcx' 0 _ rfl
            refine wpIn_block ?_
            refine wpIn_seq_k fun K hK => ?_
            have HKc := Lib.hid hK
            clear hK
            refine region_ds [some 42, some 43, some 44, some 45, some 46, some 47, some 48, some 49, some 50, some 51]
              (fun p => match p with | 0 => .slice (some ⟨gd, 0, none⟩) g.length g.length | 1 => .int .i64 (i : Int) | 2 => .pointer (some ⟨gd, i * 1, none⟩) | 3 => .int .i64 (deepN g f i : Int) | 4 => .slice (some ⟨gd, 0, none⟩) g.length g.length | 5 => .int .i64 (k : Int) | 6 => .pointer (some ⟨gd, k * 1, none⟩) | 7 => .int .i64 (deepN g f k : Int) | 8 => .int .i64 ((deepN g f k : Int) - 1) | _ => .bool q)
              (fun _ W7 => Same W' W7) 58 (by kernel_rfl) (by simp) (by kernel_rfl) (by kernel_rfl) (by kernel_rfl) (Same.drewN W' 1) ?hstep ?hend
            case hstep =>
              intro p o L a W7 K2 ho hf hL hdep hev hold hJ hK2
              have hp10 : p < 10 := by have := (Array.getElem?_eq_some_iff.1 ho).1; simpa using this
              rcases (by omega : p = 0 ∨ p = 1 ∨ p = 2 ∨ p = 3 ∨ p = 4 ∨ p = 5 ∨ p = 6 ∨ p = 7 ∨ p = 8 ∨ p = 9) with rfl | rfl | rfl | rfl | rfl | rfl | rfl | rfl | rfl | rfl
              · obtain rfl := Option.some.inj ho
                exact opIn_loadW rfl ((hold 4 (by kernel_rfl)).trans rfl) (loadVar_one Tryd.isAgg23 ((hJ.cell _).trans c4)) (hK2 _ hJ)
              · obtain rfl := Option.some.inj ho
                exact opIn_moveW rfl ((hold 7 (by kernel_rfl)).trans rfl) (hK2 _ hJ)
              · obtain rfl := Option.some.inj ho
                exact opIn_indexW rfl (hev 0 42 (by simp) rfl (dep_of hdep (by kernel_rfl))) (hev 1 43 (by simp) rfl (dep_of hdep (by kernel_rfl))) Tryd.underlying23 (Tryd.sizeOf3) hin (hK2 _ hJ)
              · obtain rfl := Option.some.inj ho
                exact opIn_loadW rfl (hev 2 44 (by simp) rfl (dep_of hdep (by kernel_rfl))) (loadVar_one Tryd.isAgg3 (by rw [Nat.mul_one]; exact (hJ.cell _).trans ci)) (hK2 _ hJ)
              · obtain rfl := Option.some.inj ho
                exact opIn_loadW rfl ((hold 4 (by kernel_rfl)).trans rfl) (loadVar_one Tryd.isAgg23 ((hJ.cell _).trans c4)) (hK2 _ hJ)
              · obtain rfl := Option.some.inj ho
                exact opIn_loadW rfl ((hold 6 (by kernel_rfl)).trans rfl) (loadVar_one Tryd.isAgg3 ((hJ.cell _).trans c6)) (hK2 _ hJ)
              · obtain rfl := Option.some.inj ho
                exact opIn_indexW rfl (hev 4 46 (by simp) rfl (dep_of hdep (by kernel_rfl))) (hev 5 47 (by simp) rfl (dep_of hdep (by kernel_rfl))) Tryd.underlying23 (Tryd.sizeOf3) hlt (hK2 _ hJ)
              · obtain rfl := Option.some.inj ho
                exact opIn_loadW rfl (hev 6 48 (by simp) rfl (dep_of hdep (by kernel_rfl))) (loadVar_one Tryd.isAgg3 (by rw [Nat.mul_one]; exact (hJ.cell _).trans ck)) (hK2 _ hJ)
              · obtain rfl := Option.some.inj ho
                refine opIn_sub rfl (hev 7 49 (by simp) rfl (dep_of hdep (by kernel_rfl))) rfl ?_
                rw [hwr]
                exact hK2 _ hJ
              · obtain rfl := Option.some.inj ho
                refine opIn_eql rfl (hev 3 45 (by simp) rfl (dep_of hdep (by kernel_rfl))) (hev 8 50 (by simp) rfl (dep_of hdep (by kernel_rfl))) ?_
                rw [hq]
                exact hK2 _ hJ
            case hend =>
              intro L W7 hall hJ
              have HI7 := Lib.hid (hi'.keep hJ.kept)
              have HX7 := Lib.hid (kept_heap hJ.kept hcx')
              have HM7 := Lib.hid (hm'.kept hJ.kept)
              have HKe : Hid (KeepsFrom W6.heap.size W' W7) := Lib.hid (keeps_kept hJ.kept)
              simp only [putD, List.size_toArray, List.length_cons, List.length_nil, List.setIfInBounds_toArray, List.set_cons_zero, List.set_cons_succ, Nat.reduceAdd, List.getD_cons_zero, List.getD_cons_succ]
              refine HKc.out _ _ ?_
              clear HKc c4 c6 ci ck di dk hJ hi' hcx' hm' hwr hp
              cases q
              · have hno : ¬ IsIdom g f.toNat i k := fun h => by
                  have := hnear.2 h
                  rw [beq_eq_false_iff_ne] at hq
                  exact hq this
                rw [lastL_no hno] at HI7
                clear hnear hq
                gi_wp2
                exact ⟨HKe.out, trivial, HI7.out, HX7.out, HM7.out⟩
              · have hyes : IsIdom g f.toNat i k := hnear.1 (by simpa using hq)
                have hf0 : 0 ≤ f := by have := dom_re hdm; exact this.1
                have hll : ((lastL g f k pre).map vi).length = g.length := by rw [List.length_map, lastL_len]
                obtain ⟨_, e, _, _, _, c, fz⟩ := own_at HI7.out.own3 (j := k) (by rw [hll]; exact hlt)
                injection e with e
                injection e with e
                subst e
                obtain ⟨u, hu⟩ : ∃ u, ((lastL g f k pre).map vi)[k]'(by rw [hll]; exact hlt) = u := ⟨_, rfl⟩
                rw [hu] at c
                have c3 := bx_cell HI7.out.c3 0 _ rfl
                have c6 := bx_cell HX7.out 0 _ rfl
                have HS := Lib.hid (HI7.out.set3 k (i : Int))
                rw [lastL_yes hf0 hlt hyes] at HS
                have hlo := HI7.out.lows
                have hgb : gi ≠ b6 → (W7.setCell ⟨gi, k, none⟩ (.int .i64 (i : Int))).heap[b6]? = some (.cells #[.int .i64 (k : Int)] 3 (0, 0)) := fun hne => (heap_setCell_other _ _ _ _ (fun e => hne e.symm)).trans HX7.out
                have hcells := (own_ty HI7.out.own3 rfl).2.2
                clear hnear hq hu hyes
                gi_wp2
                have hcg : Chg (fun k => k = gi) W7 (W7.setCell ⟨gi, k, none⟩ (.int .i64 (i : Int))) := chg_set _ _ _ _
                have hblk : ∀ k, k = gi → Blkc W7 k := fun k e => by subst e; obtain ⟨c, hc⟩ := hcells; exact ⟨_, _, _, hc⟩
                exact ⟨HKe.out.trans (keeps_chg hcg fun k e _ => hblk k e), trivial, HS.out, hgb (by omega), HM7.out.chg hcg hblk⟩
          case done =>
            rintro D W' hD ⟨hi', hcx', hm'⟩ hk
            have HIn := Lib.hid hi'
            rw [HZs.out, lastL_step g (by omega)] at HIn
            have hDs := (Array.getElem?_eq_some_iff.1 hk).1
            have HMn := Lib.hid ((hm'.snoc hlw6 hD hk).high hDs)
            clear hi' hcx' hm' hst6
            dsimp only
            go_wp2
            exact HKK.out _ _ (g.length - (k + 1)) (by omega) ⟨k + 1, D :: l, _, _, _, _, _, _, _, _, _, rfl, rfl, by omega, HIn, HMn⟩
          case stop =>
            intro D c pre W _ _ h
            exact h.elim
      case pos =>
        have hzl : k < (domL g f).length := by rw [domL_len]; exact hlt
        obtain ⟨z, hz⟩ : ∃ z, (domL g f)[k] = z := ⟨_, rfl⟩
        have hzb : z < 4294967296 := by
          rw [← hz, domL_at]; exact setN_lt' (m := 32) (by omega) _
        have hzd : (bitsL z).length = deepN g f k := by rw [← hz, domL_at]; rfl
        have HZ := Lib.hid (fun W (h : Kept w W) => show SetAt W bb (k * 32) z from by have := (HG.out.kept h).at hzl; rwa [hz] at this)
        have HCt := Lib.hid (fun W => count_any W z hzb)
        rw [hzd] at HCt
        have HK2 := Lib.hid HK.out
        clear hz hzd
        go_upto_region 5 with fail
        refine (wpIn_wide (n := 0)).1 ?_
        refine region_ds [some 19, some 20, some 21, some 22, some 23, some 24, some 25, some 26, some 27, some 28, none, some 29, none]
          (fun i => match i with | 0 => .slice (some ⟨gi, 0, none⟩) g.length g.length | 1 => .int .i64 (k : Int) | 2 => .slice (some ⟨gd, 0, none⟩) g.length g.length | 3 => .int .i64 (k : Int) | 4 => .slice (some ⟨bb, 0, none⟩) g.length g.length | 5 => .int .i64 (k : Int) | 6 => .pointer (some ⟨bb, k * 32, none⟩) | 7 => .agg (setC z) | 8 => .int .i64 (deepN g f k : Nat) | 9 => .pointer (some ⟨gi, k * 1, none⟩) | 11 => .pointer (some ⟨gd, k * 1, none⟩) | _ => undef)
          (fun L W => LsI w W b3 b4 gi gd g.length (if L.getD 10 false = true then oneL g.length (k + 1) else oneL g.length k) (if L.getD 12 false = true then deepL g f (k + 1) else deepL g f k)) 58 (by kernel_rfl) (by simp) (by kernel_rfl) (by kernel_rfl) (by kernel_rfl) ?h0 ?hstep ?hend
        case h0 => exact HK2.out.keep ((Kept.refl wr).drewN 1)
        case hend =>
          intro L W hall hJ
          rw [if_pos (hall 10 (by simp)), if_pos (hall 12 (by simp))] at hJ
          have HJ := Lib.hid hJ
          clear hJ HK HK2 HCt HZ
          simp only [putD, List.size_toArray, List.length_cons, List.length_nil, List.setIfInBounds_toArray, List.set_cons_zero, List.set_cons_succ, Nat.reduceAdd, List.getD_cons_zero, List.getD_cons_succ]
          go_wp2
          go_roundg (g.length - (k + 1))
          case measure => omega
          case rel => exact ⟨k + 1, rfl, by omega, by simp, HJ⟩
        case hstep =>
          intro i o L a W K ho hf hL hdep hev hold hJ hK
          have hL' : L.size = 13 := by rw [hL]; simp
          have hset : ∀ p, (L.setIfInBounds i true).getD p false = if i = p then true else L.getD p false := fun p => getD_set (by have := (Array.getElem?_eq_some_iff.1 ho).1; omega)
          have hkeep : i ≠ 10 → i ≠ 12 → ∀ W', Kept W W' → LsI w W' b3 b4 gi gd g.length (if (L.setIfInBounds i true).getD 10 false = true then oneL g.length (k + 1) else oneL g.length k) (if (L.setIfInBounds i true).getD 12 false = true then deepL g f (k + 1) else deepL g f k) := fun n1 n2 W' hk' => by
            rw [hset, hset, if_neg n1, if_neg n2]; exact hJ.keep hk'
          have hi13 : i < 13 := by have := (Array.getElem?_eq_some_iff.1 ho).1; simpa using this
          rcases (by omega : i = 0 ∨ i = 1 ∨ i = 2 ∨ i = 3 ∨ i = 4 ∨ i = 5 ∨ i = 6 ∨ i = 7 ∨ i = 8 ∨ i = 9 ∨ i = 10 ∨ i = 11 ∨ i = 12) with rfl | rfl | rfl | rfl | rfl | rfl | rfl | rfl | rfl | rfl | rfl | rfl | rfl
          · obtain rfl := Option.some.inj ho
            exact opIn_loadW rfl ((hold 3 (by kernel_rfl)).trans rfl) (loadVar_one Tryd.isAgg23 (bx_cell hJ.c3 0 _ rfl)) (hK _ (hkeep (by decide) (by decide) _ (Kept.refl _)))
          · obtain rfl := Option.some.inj ho
            exact opIn_moveW rfl ((hold 5 (by kernel_rfl)).trans rfl) (hK _ (hkeep (by decide) (by decide) _ (Kept.refl _)))
          · obtain rfl := Option.some.inj ho
            exact opIn_loadW rfl ((hold 4 (by kernel_rfl)).trans rfl) (loadVar_one Tryd.isAgg23 (bx_cell hJ.c4 0 _ rfl)) (hK _ (hkeep (by decide) (by decide) _ (Kept.refl _)))
          · obtain rfl := Option.some.inj ho
            exact opIn_moveW rfl ((hold 5 (by kernel_rfl)).trans rfl) (hK _ (hkeep (by decide) (by decide) _ (Kept.refl _)))
          · obtain rfl := Option.some.inj ho
            exact opIn_moveW rfl ((hold 0 (by kernel_rfl)).trans rfl) (hK _ (hkeep (by decide) (by decide) _ (Kept.refl _)))
          · obtain rfl := Option.some.inj ho
            exact opIn_moveW rfl ((hold 5 (by kernel_rfl)).trans rfl) (hK _ (hkeep (by decide) (by decide) _ (Kept.refl _)))
          · obtain rfl := Option.some.inj ho
            exact opIn_indexW rfl (hev 4 23 (by simp) rfl (dep_of hdep (by kernel_rfl))) (hev 5 24 (by simp) rfl (dep_of hdep (by kernel_rfl))) Tryd.underlying35 (Tryd.sizeOf42) hlt (hK _ (hkeep (by decide) (by decide) _ (Kept.refl _)))
          · obtain rfl := Option.some.inj ho
            exact opIn_loadW rfl (hev 6 25 (by simp) rfl (dep_of hdep (by kernel_rfl))) (HZ.out W hJ.kept).load (hK _ (hkeep (by decide) (by decide) _ (Kept.refl _)))
          · obtain rfl := Option.some.inj ho
            refine opIn_callW (args := #[.agg (setC z)]) rfl (by simp [hev 7 26 (by simp) rfl (dep_of hdep (by kernel_rfl))]) (enters_of Tryd.func39 (by kernel_rfl) rfl _) (fun _ => trivial) (fun h => by cases h) (callsIn_wide.2 (HCt.out W)) ?_
            rintro e W2 ⟨rfl, h⟩
            exact ⟨_, rfl, hK _ (hkeep (by decide) (by decide) _ h)⟩
          · obtain rfl := Option.some.inj ho
            exact opIn_indexW rfl (hev 0 19 (by simp) rfl (dep_of hdep (by kernel_rfl))) (hev 1 20 (by simp) rfl (dep_of hdep (by kernel_rfl))) Tryd.underlying23 (Tryd.sizeOf3) hlt (hK _ (hkeep (by decide) (by decide) _ (Kept.refl _)))
          · obtain rfl := Option.some.inj ho
            have hown := hJ.own3
            rw [if_neg (by rw [hf]; decide)] at hown
            obtain ⟨_, e, _, _, _, c, fz⟩ := own_at hown (j := k) (by rw [List.length_map, oneL_len]; exact hlt)
            injection e with e
            injection e with e
            subst e
            refine opIn_store rfl (hev 9 28 (by simp) rfl (dep_of hdep (by kernel_rfl))) rfl (storeVar_one Tryd.sizeOf3 rfl rfl (by rw [Nat.mul_one]; exact c) (by rw [Nat.mul_one]; exact fz) rfl) (hK _ ?_)
            have h := hJ.set3 k (-1)
            rw [if_neg (by rw [hf]; decide), oneL_set hlt] at h
            rw [hset, hset, Nat.mul_one]
            simp only [↓reduceIte, Nat.reduceEqDiff]
            exact h
          · obtain rfl := Option.some.inj ho
            exact opIn_indexW rfl (hev 2 21 (by simp) rfl (dep_of hdep (by kernel_rfl))) (hev 3 22 (by simp) rfl (dep_of hdep (by kernel_rfl))) Tryd.underlying23 (Tryd.sizeOf3) hlt (hK _ (hkeep (by decide) (by decide) _ (Kept.refl _)))
          · obtain rfl := Option.some.inj ho
            have hown := hJ.own4
            rw [if_neg (by rw [hf]; decide)] at hown
            obtain ⟨_, e, _, _, _, c, fz⟩ := own_at hown (j := k) (by rw [List.length_map, deepL_len]; exact hlt)
            injection e with e
            injection e with e
            subst e
            refine opIn_store rfl (hev 11 29 (by simp) rfl (dep_of hdep (by kernel_rfl))) (hev 8 27 (by simp) rfl (dep_of hdep (by kernel_rfl))) (storeVar_one Tryd.sizeOf3 rfl rfl (by rw [Nat.mul_one]; exact c) (by rw [Nat.mul_one]; exact fz) rfl) (hK _ ?_)
            have h := hJ.set4 k (deepN g f k)
            rw [if_neg (c := L.getD 12 false = true) (by rw [hf]; decide), deepL_set] at h
            rw [hset, hset, Nat.mul_one]
            simp only [↓reduceIte, Nat.reduceEqDiff]
            exact h
  · refine wp_region_noPanic ?_
    go_region
    all_goals (refine ⟨rfl, _, _, _, _, ?_, rfl⟩; obtain ⟨q, q0, q1, q2, q3⟩ := alloc4 w _ _ _ _; exact ls_of (by omega) q (by first | exact q0 | exact q1 | exact q2 | exact q3) (by first | exact q0 | exact q1 | exact q2 | exact q3) (by first | exact q0 | exact q1 | exact q2 | exact q3) (by first | exact q0 | exact q1 | exact q2 | exact q3) (by omega) (by omega) (by omega) (by omega) (by omega))
end Go.Proofs.YtpkebokfbigggaaDoor.Shp
