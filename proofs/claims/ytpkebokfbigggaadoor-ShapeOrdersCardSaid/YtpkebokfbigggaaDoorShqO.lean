/-
  Package shape: order.
-/
import Derived.Test.YtpkebokfbigggaaDoorShqN
import Derived.Test.YtpkebokfbigggaaDoorShpJ
import Derived.Deep.AppendLies
import Derived.Laws.ResultCell
import Derived.Sort.CutIn
namespace Go.Proofs.YtpkebokfbigggaaDoor.Shp
open Go.RowKit Go.Shelf
open Classical
attribute [local go_sem] Oper.semAt_some

section
variable {F : Fence} {n : Nat} {P : Program} {ops : Array Oper} {Q : Exit → Act → World → Prop} {a : Act} {w : World} {rest : List Oper} {o : Oper}
theorem st_step (hg : o.guard = none) (h : o.wpIn F n P a w (wpListIn F n P ops Q rest) Q) : wpListIn F n P ops Q (o :: rest) a w := by
  simp only [wpListIn, Region.wanted, hg, if_true]
  exact h
theorem opIn_extract {K : Act → World → Prop} {x : Operand} {i : Nat} {vs : Array Value} {v : Value} (hop : o.op = .extract x i) (hx : a.eval x = .tuple vs) (hv : vs[i]? = some v) (hK : K (a.put o.dst v) w) : o.wpIn F n P a w K Q :=
  opIn_run (v := v) (w' := w) (by simp [Oper.about, hop]) (by rw [hop]; intro c h; cases h) (by unfold execOp; simp [hop, hx, hv, Instr.extract, Sem.run_pure, Sem.run_bind, Result.andThen_ok]) hK
theorem wpListIn_append_lies (hgd : o.guard = none) (s x : Operand) (t : TypeId)
    (ho : o.op = .call { callee := .builtin .append, args := #[s, x], argTypes := #[t, t] })
    (base : Nat) (e : TypeId) (i : TypeInfo) (z : Value) (size bytes : Nat) (ht : P.underlying t = some (.slice e)) (hi : P.info? e = some i) (hz : i.zero = some z)
    (hsize : i.size = size) (hby : i.bytes = bytes) (hzs : z.cells.size = size) (hsz : 0 < size)
    (v : Value) (n' : Nat) (xs : List Value) (hs : a.eval s = v) (hown : w.ownsRow base e size v n' xs)
    (ad : Addr) (m c : Nat) (news : List Value) (hx : a.eval x = .slice (some ad) m c) (hl : news.length = m * size) (hnews : ∀ j u, news[j]? = some u → w.cell? (ad.add j) = some u) (h1 : ∀ u ∈ news, u.oneCell' = true)
    (hm : 0 < m) (h63 : n' + m ≤ maxLen) (hbytes : (n' + m) * bytes ≤ 140737488355328) (hbase : base ≤ w.heap.size)
    (h : ∀ g cap w', w'.ownsRow base e size (.slice (some ⟨g, 0, none⟩) (n' + m) cap) (n' + m) (xs ++ news) → w.grownBy w' v.ownBlock → (v.ownBlock = some g ∨ g = w.heap.size) → g < w'.heap.size → wpListIn F n P ops Q rest (a.put o.dst (.slice (some ⟨g, 0, none⟩) (n' + m) cap)) w') :
    wpListIn F n P ops Q (o :: rest) a w := by
  obtain ⟨g, cap, w', hr, h2, h3, h4, h5⟩ := run_append_lies (P := P) w t o.type base e i z size bytes ht hi hz hsize hby hzs hsz v n' xs hown ad m c news hl hnews h1 hm h63 hbytes hbase _ rfl
  refine st_step hgd (opIn_run (v := .slice (some ⟨g, 0, none⟩) (n' + m) cap) (w' := w') (by simp [Oper.about, ho, resolve, Target.leads, Sem.run_pure]) (by rw [ho]; intro c hc'; cases hc') ?_ (h g cap w' h2 h3 h4 h5))
  simp [execOp, ho, resolve, invoke, builtin, hs, hx, hr, Result.andThen]
end

structure OrI (w W : World) (b4 b6 b8 b9 b10 ob gw : Nat) (g : Gr) (f : Int) (vo : Value) (dl : List Nat) (X : List Int) (r : Nat) : Prop where
  kept : Kept w W
  c4 : W.heap[b4]? = some (.cells #[vo] 23 (0, 0))
  c6 : W.heap[b6]? = some (.cells #[.slice (some ⟨ob, 0, none⟩) g.length g.length] 36 (0, 0))
  c9 : W.heap[b9]? = some (.cells #[.slice (some ⟨gw, 0, none⟩) g.length g.length] 23 (0, 0))
  x8 : Box W b8 (rN g f 0)
  x10 : Box W b10 r
  on : Gs W ob (onL g f)
  row : W.ownsRow w.heap.size 3 1 vo dl.length (dl.map vn)
  wa : W.ownsRow w.heap.size 3 1 (.slice (some ⟨gw, 0, none⟩) g.length g.length) g.length (X.map vi)
  ne : ∀ q, vo.ownBlock = some q → q ≠ gw
  low : w.heap.size ≤ b4 ∧ w.heap.size ≤ b10 ∧ b4 ≠ b9 ∧ b8 ≠ b10 ∧ ob ≠ b10
section
variable {w W W' : World} {b4 b6 b8 b9 b10 ob gw r : Nat} {g : Gr} {f : Int} {vo : Value} {dl : List Nat} {X : List Int}
theorem OrI.keep (h : OrI w W b4 b6 b8 b9 b10 ob gw g f vo dl X r) (hk : Kept W W') : OrI w W' b4 b6 b8 b9 b10 ob gw g f vo dl X r :=
  ⟨h.kept.trans hk, kept_heap hk h.c4, kept_heap hk h.c6, kept_heap hk h.c9, h.x8.kept hk, h.x10.kept hk, h.on.kept hk, own_kept h.row hk, own_kept h.wa hk, h.ne, h.low⟩
theorem OrI.gws (h : OrI w W b4 b6 b8 b9 b10 ob gw g f vo dl X r) : w.heap.size ≤ gw ∧ gw ≠ b4 ∧ gw ≠ b6 ∧ gw ≠ b9 ∧ gw ≠ b8 ∧ gw ≠ b10 ∧ gw ≠ ob := by
  obtain ⟨h1, _, c, hc⟩ := own_ty h.wa rfl
  obtain ⟨cs, ho, _⟩ := h.on
  exact ⟨h1, ne_of_ty hc h.c4 (by decide), ne_of_ty hc h.c6 (by decide), ne_of_ty hc h.c9 (by decide), ne_of_ty hc h.x8 (by decide), ne_of_ty hc h.x10 (by decide), ne_of_ty hc ho (by decide)⟩
theorem OrI.setw (h : OrI w W b4 b6 b8 b9 b10 ob gw g f vo dl X r) (j : Nat) (z : Int) : OrI w (W.setCell ⟨gw, j, none⟩ (.int .i64 z)) b4 b6 b8 b9 b10 ob gw g f vo dl (X.set j z) r := by
  obtain ⟨q0, q4, q6, q9, q8, q10, qo⟩ := h.gws
  have hc := chg_set W gw j (.int .i64 z)
  refine ⟨h.kept.setCell q0 _, hc.heap h.c4 q4.symm, hc.heap h.c6 q6.symm, hc.heap h.c9 q9.symm, h.x8.chg hc q8.symm, h.x10.chg hc q10.symm, h.on.chg hc qo.symm, own_chg h.row hc (fun q e => h.ne q e), ?_, h.ne, h.low⟩
  have := own_set h.wa (j := j) (.int .i64 z)
  rw [List.map_set]; exact this
theorem OrI.chg10 (h : OrI w W b4 b6 b8 b9 b10 ob gw g f vo dl X r) (hc : Chg (fun k => k = b10) W W') {r' : Nat} (hb : Box W' b10 r') : OrI w W' b4 b6 b8 b9 b10 ob gw g f vo dl X r' := by
  obtain ⟨q0, q4, q6, q9, q8, q10, qo⟩ := h.gws
  obtain ⟨l1, l2, l3, l4, l5⟩ := h.low
  refine ⟨kept_grown h.kept hc (fun k e => by omega), hc.heap h.c4 (ne_of_ty h.c4 h.x10 (by decide)), hc.heap h.c6 (ne_of_ty h.c6 h.x10 (by decide)), hc.heap h.c9 (ne_of_ty h.c9 h.x10 (by decide)), h.x8.chg hc l4, hb, h.on.chg hc l5, own_chg h.row hc (fun q e => ?_), own_chg h.wa hc (fun q e => ?_), h.ne, h.low⟩
  · obtain ⟨_, _, c, hc'⟩ := own_ty h.row e
    exact ne_of_ty hc' h.x10 (by decide)
  · obtain ⟨_, _, c, hc'⟩ := own_ty h.wa e
    exact ne_of_ty hc' h.x10 (by decide)
theorem OrI.push (h : OrI w W b4 b6 b8 b9 b10 ob gw g f vo dl X r) {o : Obj} {q n c i : Nat} (hg : (W.alloc o).grownBy W' vo.ownBlock) (ho : W'.ownsRow w.heap.size 3 1 (.slice (some ⟨q, 0, none⟩) n c) (dl.length + 1) (dl.map vn ++ [.int .i64 (i : Int)])) (hq : vo.ownBlock = some q ∨ q = (W.alloc o).heap.size) :
    OrI w (W'.setCell ⟨b4, 0, none⟩ (.slice (some ⟨q, 0, none⟩) n c)) b4 b6 b8 b9 b10 ob gw g f (.slice (some ⟨q, 0, none⟩) n c) (dl ++ [i]) X r := by
  have h1 := h.keep ((Kept.refl W).alloc o)
  generalize W.alloc o = W1 at *
  have hc := chg_grown hg
  obtain ⟨g0, g4, g6, g9, g8, g10, go⟩ := h1.gws
  obtain ⟨l1, l2, l3, l4, l5⟩ := h1.low
  have hr : ∀ k, vo.ownBlock = some k → ∃ c, W1.heap[k]? = some (.cells c 3 (0, 0)) := fun k e => (own_ty h1.row e).2.2
  have hn : ∀ k cs t fr, W1.heap[k]? = some (.cells cs t fr) → t ≠ 3 → ¬ vo.ownBlock = some k := fun k cs t fr hk ht e => by
    obtain ⟨c, e2⟩ := hr k e
    rw [hk] at e2
    injection e2 with e2
    injection e2 with _ e2 _
    exact ht e2
  have hqg : q ≠ gw := by
    rcases hq with e | e
    · exact h1.ne q e
    · have := (own_ty h1.wa (g := gw) rfl).2.1
      omega
  have hc4 := hc.heap h1.c4 (hn _ _ _ _ h1.c4 (by decide))
  obtain ⟨cs, ho', _⟩ := h1.on
  have hs := chg_set W' b4 0 (.slice (some ⟨q, 0, none⟩) n c)
  have k1 : Kept w W' := kept_grown h1.kept hc (fun k e => (own_ty h1.row e).1)
  have hx8 := (h1.x8.chg hc (hn _ _ _ _ h1.x8 (by decide)))
  have hx10 := (h1.x10.chg hc (hn _ _ _ _ h1.x10 (by decide)))
  have hon := (h1.on.chg hc (hn _ _ _ _ ho' (by decide)))
  have hwa := own_chg h1.wa hc (fun k e e2 => h1.ne k e2 (by simpa [Value.ownBlock] using e.symm))
  obtain ⟨cs2, ho2, _⟩ := id hon
  refine ⟨k1.setCell l1 _, ?_, hs.heap (hc.heap h1.c6 (hn _ _ _ _ h1.c6 (by decide))) (ne_of_ty h1.c6 h1.c4 (by decide)), hs.heap (hc.heap h1.c9 (hn _ _ _ _ h1.c9 (by decide))) l3.symm, hx8.chg hs (ne_of_ty hx8 hc4 (by decide)), hx10.chg hs (ne_of_ty hx10 hc4 (by decide)), hon.chg hs (ne_of_ty ho2 hc4 (by decide)), ?_, own_chg hwa hs (fun k e => ?_), fun k e => ?_, h1.low⟩
  · rw [heap_setCell_same _ _ _ _ _ _ hc4]; rfl
  · rw [List.length_append, List.length_singleton, List.map_append]
    refine own_chg ho hs fun k e => ?_
    obtain ⟨_, _, c', hc'⟩ := own_ty ho e
    exact ne_of_ty hc' hc4 (by decide)
  · obtain ⟨_, _, c', hc'⟩ := own_ty hwa e
    exact ne_of_ty hc' hc4 (by decide)
  · simp only [Value.ownBlock, Option.some.injEq] at e
    subst e
    exact hqg
theorem OrI.set4 (h : OrI w W b4 b6 b8 b9 b10 ob gw g f vo dl X r) : OrI w (W.setCell ⟨b4, 0, none⟩ vo) b4 b6 b8 b9 b10 ob gw g f vo dl X r := by
  obtain ⟨q0, q4, q6, q9, q8, q10, qo⟩ := h.gws
  obtain ⟨l1, l2, l3, l4, l5⟩ := h.low
  have hs := chg_set W b4 0 vo
  obtain ⟨cs, ho', _⟩ := id h.on
  refine ⟨h.kept.setCell l1 _, by rw [heap_setCell_same _ _ _ _ _ _ h.c4]; rfl, hs.heap h.c6 (ne_of_ty h.c6 h.c4 (by decide)), hs.heap h.c9 l3.symm, h.x8.chg hs (ne_of_ty h.x8 h.c4 (by decide)), h.x10.chg hs (ne_of_ty h.x10 h.c4 (by decide)), h.on.chg hs (ne_of_ty ho' h.c4 (by decide)), own_chg h.row hs (fun q e => ?_), own_chg h.wa hs (fun q e => ?_), h.ne, h.low⟩
  · obtain ⟨_, _, c, hc'⟩ := own_ty h.row e
    exact ne_of_ty hc' h.c4 (by decide)
  · obtain ⟨_, _, c, hc'⟩ := own_ty h.wa e
    exact ne_of_ty hc' h.c4 (by decide)
theorem OrI.pushk (h : OrI w W b4 b6 b8 b9 b10 ob gw g f vo dl X r) {o : Obj} {u : Value} (hg : (W.alloc o).grownBy W' vo.ownBlock) : KeepsFrom 0 W (W'.setCell ⟨b4, 0, none⟩ u) := by
  have h1 := h.keep ((Kept.refl W).alloc o)
  refine (keeps_kept ((Kept.refl W).alloc o)).trans ?_
  generalize W.alloc o = W1 at *
  have hc := chg_grown hg
  have hr : ∀ k, vo.ownBlock = some k → ∃ c, W1.heap[k]? = some (.cells c 3 (0, 0)) := fun k e => (own_ty h1.row e).2.2
  have hc4 := hc.heap h1.c4 (fun e => by
    obtain ⟨c, e2⟩ := hr _ e
    rw [h1.c4] at e2
    injection e2 with e2
    injection e2 with _ e2 _
    exact absurd e2 (by decide))
  exact (keeps_chg hc fun k e _ => by obtain ⟨c, e2⟩ := hr k e; exact ⟨_, _, _, e2⟩).trans (keeps_chg (chg_set W' b4 0 u) fun k e _ => by subst e; exact ⟨_, _, _, hc4⟩)
theorem KeepsFrom.low0 {B : Nat} {W W' : World} (h : KeepsFrom 0 W W') : KeepsFrom B W W' := ⟨h.size, fun k o _ hk ho => h.same k o (Nat.zero_le _) hk ho⟩
theorem MarksL.keeps {lo hi : Nat} {W W' : World} {l : List Nat} (h : MarksL lo hi W l) (hk : KeepsFrom 0 W W') : MarksL lo hi W' l := ⟨h.nd, fun D hD => ⟨(h.is D hD).1, (h.is D hD).2.1, hk.same D _ (Nat.zero_le _) (h.is D hD).2.2 rfl⟩⟩
theorem OrI.grown4 (h : OrI w W b4 b6 b8 b9 b10 ob gw g f vo dl X r) {o : Obj} (hg : (W.alloc o).grownBy W' vo.ownBlock) : W'.heap[b4]? = some (.cells #[vo] 23 (0, 0)) := by
  have h1 := h.keep ((Kept.refl W).alloc o)
  generalize W.alloc o = W1 at *
  refine (chg_grown hg).heap h1.c4 fun e => ?_
  obtain ⟨_, _, c, e2⟩ := own_ty h1.row e
  rw [h1.c4] at e2
  injection e2 with e2
  injection e2 with _ e2 _
  exact absurd e2 (by decide)
theorem stb_or {B : Nat} (h : w.heap.size ≤ B) : Stb B (fun W => OrI w W b4 b6 b8 b9 b10 ob gw g f vo dl X r) := fun S W W' hi hc hs =>
  ⟨stb_kept w h S W W' hi.kept hc hs, stb_cells B _ _ _ _ S W W' hi.c4 hc hs, stb_cells B _ _ _ _ S W W' hi.c6 hc hs, stb_cells B _ _ _ _ S W W' hi.c9 hc hs, stb_box B _ _ S W W' hi.x8 hc hs, stb_box B _ _ S W W' hi.x10 hc hs, stb_gs B _ _ S W W' hi.on hc hs,
    stb_own B _ _ _ _ _ S W W' hi.row hc hs, stb_own B _ _ _ _ _ S W W' hi.wa hc hs, hi.ne, hi.low⟩
end

theorem opIn_build0 {F : Fence} {n : Nat} {Q : Exit → Act → World → Prop} {a : Act} {w : World} {o : Oper} {K : Act → World → Prop} (hop : o.op = .build 42 #[]) (hK : K (a.put o.dst (.agg (setC 0))) w) : o.wpIn F n Tryd.prog a w K Q :=
  opIn_run (v := .agg (setC 0)) (w' := w) (by simp [Oper.about, hop]) (by rw [hop]; intro c h; cases h) (by
    rw [setC_zero]
    unfold execOp
    simp [hop, Instr.build, Sem.run_pure, Sem.run_bind, Result.andThen_ok, go_sem]) hK
theorem res_cell {fn : Func} {i j : Nat} {tm : Array Value} {w : World} {b : Nat} {u v : Value} (hf : fn.results = #[.cell i 23, .tmp j]) (hi : tm[i]? = some (.pointer (some ⟨b, 0, none⟩))) (hj : tm[j]? = some u) (h : w.heap[b]? = some (.cells #[v] 23 (0, 0))) : (results fn tm).run Tryd.prog w = .ok (.tuple #[v, u]) w := by
  have h1 : tm.getD i undef = .pointer (some ⟨b, 0, none⟩) := by rw [Array.getD_eq_getD_getElem?, hi]; rfl
  have h2 : tm.getD j undef = u := by rw [Array.getD_eq_getD_getElem?, hj]; rfl
  have h3 : (loadVar 23 ⟨b, 0, none⟩).run Tryd.prog w = .ok v w := loadVar_one Tryd.isAgg23 (bx_cell h 0 _ rfl)
  rw [results_cell_tmp hf, h1, h2]
  simp [asAddr, Sem.run_pure, Result.andThen_ok, h3]
theorem opIn_makeAll {F : Fence} {n : Nat} {Q : Exit → Act → World → Prop} {a : Act} {w : World} {o : Oper} {K : Act → World → Prop} {x : Operand} {v : Value} {fn : FuncId} (hop : o.op = .makeFunc (.func fn) #[x] #[]) (hx : a.eval x = v) (hK : K (a.put o.dst (.func (.func fn) #[v] #[])) w) : o.wpIn F n Tryd.prog a w K Q :=
  opIn_run (v := .func (.func fn) #[v] #[]) (w' := w) (by simp [Oper.about, hop]) (by rw [hop]; intro c h; cases h) (by
    unfold execOp
    simp [hop, hx, Instr.makeFunc, Sem.run_bind, Sem.run_pure, Result.andThen_ok]) hK
/-- What the third region has made so far. -/
structure R3I (w4 : World) (x gb n : Nat) (vals : Nat → Value) (L : Nat → Bool) (W : World) : Prop where
  v0 : L 0 = true → vals 0 = .slice (some ⟨gb, 0, none⟩) n n
  v1 : L 1 = true → vals 1 = .int .i64 (n : Int)
  v2 : L 2 = true → ∃ q, vals 2 = .slice (some ⟨q, 0, none⟩) n n ∧ w4.heap.size ≤ q ∧ W.heap[q]? = some (.cells (madeCells #[.int .i64 0] n) 3 (0, 0))
  v3 : L 3 = true → vals 3 = .agg (setC x)
  v4 : L 4 = true → ∃ q u, vals 4 = .pointer (some ⟨q, 0, none⟩) ∧ w4.heap.size ≤ q ∧ W.heap[q]? = some (.cells #[u] 23 (0, 0)) ∧ (L 6 = true → u = vals 2)
  v5 : L 5 = true → ∃ q y, vals 5 = .pointer (some ⟨q, 0, none⟩) ∧ w4.heap.size ≤ q ∧ Box W q y ∧ (L 7 = true → y = x)
  v6 : L 6 = true → L 4 = true ∧ L 2 = true
  v7 : L 7 = true → L 5 = true
  kept : Kept w4 W
def upL (L : Nat → Bool) (i : Nat) : Nat → Bool := fun p => if i = p then true else L p
theorem R3I.keep {w4 W W' : World} {x gb n : Nat} {vals : Nat → Value} {L : Nat → Bool} (h : R3I w4 x gb n vals L W) (hk : Kept W W') : R3I w4 x gb n vals L W' :=
  ⟨h.v0, h.v1, fun k => by obtain ⟨q, h1, h2, h3⟩ := h.v2 k; exact ⟨q, h1, h2, kept_heap hk h3⟩, h.v3, fun k => by obtain ⟨q, u, h1, h2, h3, h4⟩ := h.v4 k; exact ⟨q, u, h1, h2, kept_heap hk h3, h4⟩,
    fun k => by obtain ⟨q, u, h1, h2, h3, h4⟩ := h.v5 k; exact ⟨q, u, h1, h2, h3.kept hk, h4⟩, h.v6, h.v7, h.kept.trans hk⟩
section
variable {w4 W : World} {x gb n : Nat} {vals : Nat → Value} {L : Nat → Bool}
theorem R3I.s0 (h : R3I w4 x gb n vals L W) : R3I w4 x gb n (upv vals 0 (.slice (some ⟨gb, 0, none⟩) n n)) (upL L 0) W := by
  refine ⟨fun _ => rfl, ?_, ?_, ?_, ?_, ?_, ?_, ?_, h.kept⟩ <;> simp only [upL, upv, ↓reduceIte, Nat.reduceEqDiff]
  · exact h.v1
  · exact h.v2
  · exact h.v3
  · exact h.v4
  · exact h.v5
  · exact h.v6
  · exact h.v7
theorem R3I.s1 (h : R3I w4 x gb n vals L W) : R3I w4 x gb n (upv vals 1 (.int .i64 (n : Int))) (upL L 1) W := by
  refine ⟨?_, fun _ => rfl, ?_, ?_, ?_, ?_, ?_, ?_, h.kept⟩ <;> simp only [upL, upv, ↓reduceIte, Nat.reduceEqDiff]
  · exact h.v0
  · exact h.v2
  · exact h.v3
  · exact h.v4
  · exact h.v5
  · exact h.v6
  · exact h.v7
theorem R3I.s3 (h : R3I w4 x gb n vals L W) : R3I w4 x gb n (upv vals 3 (.agg (setC x))) (upL L 3) W := by
  refine ⟨?_, ?_, ?_, fun _ => rfl, ?_, ?_, ?_, ?_, h.kept⟩ <;> simp only [upL, upv, ↓reduceIte, Nat.reduceEqDiff]
  · exact h.v0
  · exact h.v1
  · exact h.v2
  · exact h.v4
  · exact h.v5
  · exact h.v6
  · exact h.v7
theorem R3I.s2 (h : R3I w4 x gb n vals L W) (hf : L 2 = false) : R3I w4 x gb n (upv vals 2 (.slice (some ⟨W.heap.size, 0, none⟩) n n)) (upL L 2) (W.alloc (.cells (madeCells #[.int .i64 0] n) 3)) := by
  have h' := h.keep ((Kept.refl W).alloc (.cells (madeCells #[.int .i64 0] n) 3))
  have h6 : L 6 = false := by cases e : L 6 with | false => rfl | true => rw [(h.v6 e).2] at hf; cases hf
  refine ⟨?_, ?_, ?_, ?_, ?_, ?_, ?_, ?_, h'.kept⟩ <;> simp only [upL, upv, ↓reduceIte, Nat.reduceEqDiff]
  · exact h.v0
  · exact h.v1
  · exact fun _ => ⟨_, rfl, h.kept.size, heap_alloc_new _ _⟩
  · exact h.v3
  · intro k
    obtain ⟨q, u, h1, h2, h3, h4⟩ := h'.v4 k
    exact ⟨q, u, h1, h2, h3, fun k => by rw [h6] at k; cases k⟩
  · exact h'.v5
  · exact fun k => by rw [h6] at k; cases k
  · exact h.v7
theorem R3I.s4 (h : R3I w4 x gb n vals L W) (hf : L 4 = false) (u : Value) : R3I w4 x gb n (upv vals 4 (.pointer (some ⟨W.heap.size, 0, none⟩))) (upL L 4) (W.alloc (.cells #[u] 23)) := by
  have h' := h.keep ((Kept.refl W).alloc (.cells #[u] 23))
  have h6 : L 6 = false := by cases e : L 6 with | false => rfl | true => rw [(h.v6 e).1] at hf; cases hf
  refine ⟨?_, ?_, ?_, ?_, ?_, ?_, ?_, ?_, h'.kept⟩ <;> simp only [upL, upv, ↓reduceIte, Nat.reduceEqDiff]
  · exact h.v0
  · exact h.v1
  · exact h'.v2
  · exact h.v3
  · exact fun _ => ⟨_, _, rfl, h.kept.size, heap_alloc_new _ _, fun k => by rw [h6] at k; cases k⟩
  · exact h'.v5
  · exact fun k => by rw [h6] at k; cases k
  · exact h.v7
theorem R3I.s5 (h : R3I w4 x gb n vals L W) (hf : L 5 = false) : R3I w4 x gb n (upv vals 5 (.pointer (some ⟨W.heap.size, 0, none⟩))) (upL L 5) (W.alloc (.cells (setC 0) 42)) := by
  have h' := h.keep ((Kept.refl W).alloc (.cells (setC 0) 42))
  have h7 : L 7 = false := by cases e : L 7 with | false => rfl | true => rw [h.v7 e] at hf; cases hf
  refine ⟨?_, ?_, ?_, ?_, ?_, ?_, ?_, ?_, h'.kept⟩ <;> simp only [upL, upv, ↓reduceIte, Nat.reduceEqDiff]
  · exact h.v0
  · exact h.v1
  · exact h'.v2
  · exact h.v3
  · exact h'.v4
  · exact fun _ => ⟨_, 0, rfl, h.kept.size, Box.new _ _, fun k => by rw [h7] at k; cases k⟩
  · exact h.v6
  · exact fun k => by rw [h7] at k; cases k
theorem R3I.s6 (h : R3I w4 x gb n vals L W) (h4 : L 4 = true) (h2 : L 2 = true) {q : Nat} (hq : vals 4 = .pointer (some ⟨q, 0, none⟩)) : R3I w4 x gb n (upv vals 6 undef) (upL L 6) (W.setCell ⟨q, 0, none⟩ (vals 2)) := by
  obtain ⟨q', u, e, hl, hc, _⟩ := h.v4 h4
  rw [hq] at e
  injection e with e
  injection e with e
  injection e with e
  subst e
  have hs := chg_set W q 0 (vals 2)
  refine ⟨?_, ?_, ?_, ?_, ?_, ?_, ?_, ?_, h.kept.setCell hl _⟩ <;> simp only [upL, upv, ↓reduceIte, Nat.reduceEqDiff]
  · exact h.v0
  · exact h.v1
  · intro k
    obtain ⟨p, h1, h2, h3⟩ := h.v2 k
    exact ⟨p, h1, h2, hs.heap h3 (ne_of_ty h3 hc (by decide))⟩
  · exact h.v3
  · exact fun _ => ⟨q, vals 2, hq, hl, by rw [heap_setCell_same _ _ _ _ _ _ hc]; rfl, fun _ => rfl⟩
  · intro k
    obtain ⟨p, y, h1, h2, h3, h5⟩ := h.v5 k
    exact ⟨p, y, h1, h2, h3.chg hs (ne_of_ty h3 hc (by decide)), h5⟩
  · exact fun _ => ⟨h4, h2⟩
  · exact h.v7
theorem R3I.s7 (h : R3I w4 x gb n vals L W) (h5 : L 5 = true) {q : Nat} (hq : vals 5 = .pointer (some ⟨q, 0, none⟩)) {W' : World} (hs : Chg (fun k => k = q) W W') (hb : Box W' q x) : R3I w4 x gb n (upv vals 7 undef) (upL L 7) W' := by
  obtain ⟨q', y, e, hl, hc, _⟩ := h.v5 h5
  rw [hq] at e
  injection e with e
  injection e with e
  injection e with e
  subst e
  refine ⟨?_, ?_, ?_, ?_, ?_, ?_, ?_, ?_, kept_grown h.kept hs (fun k e => by omega)⟩ <;> simp only [upL, upv, ↓reduceIte, Nat.reduceEqDiff]
  · exact h.v0
  · exact h.v1
  · intro k
    obtain ⟨p, h1, h2, h3⟩ := h.v2 k
    exact ⟨p, h1, h2, hs.heap h3 (ne_of_ty h3 hc (by decide))⟩
  · exact h.v3
  · intro k
    obtain ⟨p, u, h1, h2, h3, h4⟩ := h.v4 k
    exact ⟨p, u, h1, h2, hs.heap h3 (ne_of_ty h3 hc (by decide)), h4⟩
  · exact fun _ => ⟨q, x, hq, hl, hb, fun _ => rfl⟩
  · exact h.v6
  · exact fun _ => h5
end
set_option maxRecDepth 100000 in
set_option maxHeartbeats 1000000 in
theorem gorder_any (w : World) (gb : Nat) (g : Gr) (f : Int) (hg : Gs w gb (xeL g)) (hl : g.length ≤ 30) (hT : Tab w) :
    Calls Tryd.prog 33 #[.slice (some ⟨gb, 0, none⟩) g.length g.length, .int .i64 f] w fun e w' => ∃ u, e = .returned (.tuple #[u, .bool (redB g f)]) ∧ Hid (Kept w w' ∧ w'.ownsRow w.heap.size 3 1 u (ordL g f).length ((ordL g f).map vn)) := by
  obtain ⟨i0, hi, hz0, hz1, hz2⟩ := info_get int_inf
  have Hi := Lib.hid (And.intro hi (And.intro hz0 (And.intro hz1 hz2)))
  clear hi hz0 hz1 hz2
  have HG := Lib.hid hg
  have HT := Lib.hid hT
  have hm := made_ints g.length (by omega)
  clear hg hT
  refine (callsIn_wide (n := 0)).1 (callsIn_of_wp_marks Tryd.func33 rfl trivial ?_ rfl)
  simp only [Tryd.ntmps33, List.size_toArray, List.length_cons, List.length_nil, Nat.reduceAdd, Nat.reduceSub, Array.replicate_succ, Array.replicate_zero, List.push_toArray, List.append_toArray, List.nil_append, List.cons_append]
  refine wpIn_wide.2 ?_
  go_wp2
  go_step3
  go_upto_region 1 with fail
  have h4 := heap_alloc_new w (.cells #[.slice none 0 0] 23)
  have k1 := (Kept.refl w).alloc (.cells #[.slice none 0 0] 23)
  generalize w.alloc (.cells #[.slice none 0 0] 23) = w1 at *
  have HP := Lib.hid (gparted_any w1 gb g f (HG.out.kept k1) hl (HT.out.kept k1))
  refine (wpIn_wide (n := 0)).1 (wpIn_region_lit ?_)
  refine st_step rfl (opIn_moveW (v := .slice (some ⟨gb, 0, none⟩) g.length g.length) rfl rfl ?_)
  simp only [Act.put, List.setIfInBounds_toArray, List.set_cons_zero, List.set_cons_succ]
  refine st_step rfl (opIn_moveW (v := .int .i64 f) rfl rfl ?_)
  simp only [Act.put, List.setIfInBounds_toArray, List.set_cons_zero, List.set_cons_succ]
  refine st_step rfl (opIn_callW (args := #[.slice (some ⟨gb, 0, none⟩) g.length g.length, .int .i64 f]) rfl (by simp only [List.map_toArray, List.map_cons, List.map_nil]; rfl) (enters_of Tryd.func31 (by kernel_rfl) rfl _) (fun _ => trivial) (fun h => by cases h) (callsIn_wide.2 HP.out) ?_)
  rintro e w2 ⟨ob, rfl, H2⟩
  refine ⟨_, rfl, ?_⟩
  simp only [Act.put, List.setIfInBounds_toArray, List.set_cons_zero, List.set_cons_succ]
  refine st_step rfl (opIn_moveW (v := .tuple #[.slice (some ⟨ob, 0, none⟩) g.length g.length, .agg (setC (hdN g f))]) rfl rfl ?_)
  simp only [Act.put, List.setIfInBounds_toArray, List.set_cons_zero, List.set_cons_succ]
  refine st_step rfl (opIn_extract rfl rfl (v := .slice (some ⟨ob, 0, none⟩) g.length g.length) rfl ?_)
  simp only [Act.put, List.setIfInBounds_toArray, List.set_cons_zero, List.set_cons_succ]
  refine st_step rfl (opIn_extract rfl rfl (v := .agg (setC (hdN g f))) rfl ?_)
  simp only [Act.put, List.setIfInBounds_toArray, List.set_cons_zero, List.set_cons_succ]
  refine st_step rfl (opIn_alloc (z := .slice none 0 0) rfl (Tryd.zeroValue36) ?_)
  simp only [Act.put, List.setIfInBounds_toArray, List.set_cons_zero, List.set_cons_succ]
  refine st_step rfl (opIn_alloc rfl zero_set ?_)
  simp only [Act.put, List.setIfInBounds_toArray, List.set_cons_zero, List.set_cons_succ]
  have kA := (Kept.refl w2).alloc (.cells (Value.slice none 0 0).cells 36)
  have cA := heap_alloc_new w2 (.cells (Value.slice none 0 0).cells 36)
  have kB := (Kept.refl (w2.alloc (.cells (Value.slice none 0 0).cells 36))).alloc (.cells (Value.agg (setC 0)).cells 42)
  have hB := Box.new (w2.alloc (.cells (Value.slice none 0 0).cells 36)) 0
  have hsz : (w2.alloc (.cells (Value.slice none 0 0).cells 36)).heap.size = w2.heap.size + 1 := by simp
  generalize w2.alloc (.cells (Value.slice none 0 0).cells 36) = wA at *
  change Box (wA.alloc (.cells (Value.agg (setC 0)).cells 42)) wA.heap.size 0 at hB
  have cA2 := kept_heap kB cA
  generalize wA.alloc (.cells (Value.agg (setC 0)).cells 42) = wB at *
  obtain ⟨b6, hb6⟩ : ∃ b, w2.heap.size = b := ⟨_, rfl⟩
  obtain ⟨b7, hb7⟩ : ∃ b, wA.heap.size = b := ⟨_, rfl⟩
  rw [hb6] at hsz cA cA2
  rw [hb7] at hB hsz
  rw [hb6, hb7]
  have cA3 : wB.heap[b6]? = some (.cells #[.slice none 0 0] 36 (0, 0)) := cA2
  refine st_step rfl (opIn_store (p := ⟨b6, 0, none⟩) (v := .slice (some ⟨ob, 0, none⟩) g.length g.length) rfl rfl rfl (storeVar_one Tryd.sizeOf36 rfl rfl (bx_cell cA3 0 _ rfl) (bx_froz cA3 0) rfl) ?_)
  simp only [Act.put, List.setIfInBounds_toArray, List.set_cons_zero, List.set_cons_succ]
  have hS := chg_set wB b6 0 (.slice (some ⟨ob, 0, none⟩) g.length g.length)
  have cS : (wB.setCell ⟨b6, 0, none⟩ (.slice (some ⟨ob, 0, none⟩) g.length g.length)).heap[b6]? = some (.cells #[.slice (some ⟨ob, 0, none⟩) g.length g.length] 36 (0, 0)) := by rw [heap_setCell_same _ _ _ _ _ _ cA3]; rfl
  have hB2 := hB.chg hS (by omega)
  generalize wB.setCell ⟨b6, 0, none⟩ (.slice (some ⟨ob, 0, none⟩) g.length g.length) = wC at *
  obtain ⟨w3, r1, r2, r3⟩ := box_store hB2 (hdN g f)
  refine st_step rfl (opIn_store (p := ⟨b7, 0, none⟩) (v := .agg (setC (hdN g f))) rfl rfl rfl r1 ?_)
  simp only [Act.put, List.setIfInBounds_toArray, List.set_cons_zero, List.set_cons_succ]
  have hgs := H2.out
  have c6 := r2.heap cS (fun e => by omega)
  have K3 : Kept w2 w3 := kept_grown (kept_grown (kA.trans kB) hS (fun k e => by omega)) r2 (fun k e => by omega)
  clear r1 r2 r3 hB2 cS hS cA3 cA2 cA hB kB kA HP
  clear hgs hb7 hsz
  simp only [wpListIn]
  go_upto_region 2 with fail
  have HR := Lib.hid (greach_any w3 gb g f 0 (((HG.out.kept k1).kept H2.out.1).kept K3) hl (Nat.two_pow_pos _) (((HT.out.kept k1).kept H2.out.1).kept K3))
  refine (wpIn_wide (n := 0)).1 (wpIn_region_lit ?_)
  refine st_step rfl (opIn_moveW (v := .slice (some ⟨gb, 0, none⟩) g.length g.length) rfl rfl ?_)
  simp only [Act.put, List.setIfInBounds_toArray, List.set_cons_zero, List.set_cons_succ]
  refine st_step rfl (opIn_moveW (v := .int .i64 f) rfl rfl ?_)
  simp only [Act.put, List.setIfInBounds_toArray, List.set_cons_zero, List.set_cons_succ]
  refine st_step rfl (opIn_build0 rfl ?_)
  simp only [Act.put, List.setIfInBounds_toArray, List.set_cons_zero, List.set_cons_succ]
  refine st_step rfl (opIn_callW (args := #[.slice (some ⟨gb, 0, none⟩) g.length g.length, .int .i64 f, .agg (setC 0)]) rfl (by simp only [List.map_toArray, List.map_cons, List.map_nil]; rfl) (enters_of Tryd.func24 (by kernel_rfl) rfl _) (fun _ => trivial) (fun h => by cases h) (callsIn_wide.2 HR.out) ?_)
  rintro e w5 ⟨rfl, H5⟩
  refine ⟨_, rfl, ?_⟩
  simp only [Act.put, List.setIfInBounds_toArray, List.set_cons_zero, List.set_cons_succ]
  refine st_step rfl (opIn_alloc rfl zero_set ?_)
  simp only [Act.put, List.setIfInBounds_toArray, List.set_cons_zero, List.set_cons_succ]
  have hB := Box.new w5 0
  have kB := (Kept.refl w5).alloc (.cells (setC 0) 42)
  change wpListIn _ _ _ _ _ _ _ (w5.alloc (.cells (setC 0) 42))
  generalize w5.alloc (.cells (setC 0) 42) = wB at *
  generalize hb8 : w5.heap.size = b8 at *
  obtain ⟨w4, r1, r2, r3⟩ := box_store hB (rN g f 0)
  refine st_step rfl (opIn_store (p := ⟨b8, 0, none⟩) (v := .agg (setC (rN g f 0))) rfl rfl rfl r1 ?_)
  simp only [Act.put, List.setIfInBounds_toArray, List.set_cons_zero, List.set_cons_succ]
  have K4 : Kept w5 w4 := kept_grown kB r2 (fun k e => by omega)
  have hb6s : b6 < w3.heap.size := (Array.getElem?_eq_some_iff.1 c6).1
  have hst : Hid (Kept w w4 ∧ w4.heap[w.heap.size]? = some (.cells #[.slice none 0 0] 23 (0, 0)) ∧ w4.heap[b6]? = some (.cells #[.slice (some ⟨ob, 0, none⟩) g.length g.length] 36 (0, 0)) ∧ Box w4 b8 (rN g f 0) ∧ Gs w4 ob (onL g f)) := by
    have kk := (H5.out.trans K4)
    have k2 := H2.out.1
    exact Lib.hid ⟨((k1.trans k2).trans K3).trans kk, kept_heap ((k2.trans K3).trans kk) h4, kept_heap kk c6, r3, (H2.out.2.2.kept K3).kept kk⟩
  have HT4 := Lib.hid (HT.out.kept hst.out.1)
  clear r1 r2 r3 hB kB K4 HR H5 H2 c6 K3 k1 h4 hb6s hb6 HG
  generalize hb4 : w.heap.size = b4 at *
  obtain ⟨x, hx⟩ : ∃ x, rN g f 0 = x := ⟨_, rfl⟩
  simp only [wpListIn]
  go_upto_region 3 with fail
  refine (wpIn_wide (n := 0)).1 ?_
  refine region_dv [some 26, some 27, some 28, some 29, some 9, some 10, none, none] (fun _ => undef) (fun vals L W => R3I w4 x gb g.length vals (fun p => L.getD p false) W)
    82 (by kernel_rfl) (by simp) (by kernel_rfl) (by kernel_rfl) (by kernel_rfl) ⟨fun h => by simp at h, fun h => by simp at h, fun h => by simp at h, fun h => by simp at h, fun h => by simp at h, fun h => by simp at h, fun h => by simp at h, fun h => by simp at h, (Kept.refl w4).drewN 1⟩ ?hstep ?hend
  case hstep =>
    intro i o L vals a W K ho hf hL hdep hev hold hnew hI hK
    have hi8 : i < 8 := by have := (Array.getElem?_eq_some_iff.1 ho).1; simpa using this
    have hset : (fun p => (L.setIfInBounds i true).getD p false) = upL (fun p => L.getD p false) i := funext fun p => getD_set (by have := (Array.getElem?_eq_some_iff.1 ho).1; omega)
    rw [hset] at hK
    rcases (by omega : i = 0 ∨ i = 1 ∨ i = 2 ∨ i = 3 ∨ i = 4 ∨ i = 5 ∨ i = 6 ∨ i = 7) with rfl | rfl | rfl | rfl | rfl | rfl | rfl | rfl
    · obtain rfl := Option.some.inj ho
      exact opIn_moveW rfl ((hold 0 (by kernel_rfl)).trans rfl) (hK _ _ hI.s0)
    · obtain rfl := Option.some.inj ho
      have d0 := dep_of hdep (i := 0) (by kernel_rfl)
      exact opIn_len rfl ((hev 0 26 (by simp) rfl d0).trans (hI.v0 d0)) Tryd.underlying36 (hK _ _ hI.s1)
    · obtain rfl := Option.some.inj ho
      have d1 := dep_of hdep (i := 1) (by kernel_rfl)
      have e := (hev 1 27 (by simp) rfl d1).trans (hI.v1 d1)
      exact opIn_make rfl e e (hm W) (hK _ _ (hI.s2 hf))
    · obtain rfl := Option.some.inj ho
      exact opIn_loadW rfl ((hold 8 (by kernel_rfl)).trans rfl) (v := .agg (setC x)) (by rw [← hx]; exact (hst.out.2.2.2.1.kept hI.kept).load) (hK _ _ hI.s3)
    · obtain rfl := Option.some.inj ho
      exact opIn_alloc (z := .slice none 0 0) rfl (Tryd.zeroValue23) (hK _ _ (hI.s4 hf _))
    · obtain rfl := Option.some.inj ho
      exact opIn_alloc rfl zero_set (hK _ _ (hI.s5 hf))
    · obtain rfl := Option.some.inj ho
      have d4 := dep_of hdep (i := 4) (by kernel_rfl)
      have d2 := dep_of hdep (i := 2) (by kernel_rfl)
      obtain ⟨q, u, e1, e2, e3, e4⟩ := hI.v4 d4
      obtain ⟨p, e5, _⟩ := hI.v2 d2
      have hone : (vals 2).cells = #[vals 2] ∧ (vals 2).oneCell' = true := by rw [e5]; exact ⟨rfl, rfl⟩
      exact opIn_store rfl ((hev 4 9 (by simp) rfl d4).trans e1) (hev 2 28 (by simp) rfl d2) (storeVar_one Tryd.sizeOf23 hone.1 hone.2 (bx_cell e3 0 _ rfl) (bx_froz e3 0) rfl) (hK _ _ (hI.s6 d4 d2 e1))
    · obtain rfl := Option.some.inj ho
      have d5 := dep_of hdep (i := 5) (by kernel_rfl)
      have d3 := dep_of hdep (i := 3) (by kernel_rfl)
      obtain ⟨q, y, e1, e2, e3, e4⟩ := hI.v5 d5
      obtain ⟨W', r1, r2, r3⟩ := box_store e3 x
      exact opIn_store rfl ((hev 5 10 (by simp) rfl d5).trans e1) ((hev 3 29 (by simp) rfl d3).trans (hI.v3 d3)) r1 (hK _ _ (hI.s7 d5 e1 r2 r3))
  case hend =>
    intro L vals W hall hI
    obtain ⟨gw, f2, f2', f2''⟩ := hI.v2 (hall 2 (by simp))
    obtain ⟨b9, u9, f4, f4', f4'', f4e⟩ := hI.v4 (hall 4 (by simp))
    obtain rfl := f4e (hall 6 (by simp))
    obtain ⟨b10, y, f5, f5', f5'', f5e⟩ := hI.v5 (hall 5 (by simp))
    obtain rfl := f5e (hall 7 (by simp))
    have f0 := hI.v0 (hall 0 (by simp))
    have f1 := hI.v1 (hall 1 (by simp))
    have f3 := hI.v3 (hall 3 (by simp))
    rw [f2] at f4''
    have hst2 : Hid (OrI w W b4 b6 b8 b9 b10 ob gw g f (.slice none 0 0) [] (waL g.length (E1 g f 0 [])) (R1 g f 0 [])) := by
      obtain ⟨q1, q2, q3, q4, q5⟩ := hst.out
      have l4 : b4 < w4.heap.size := (Array.getElem?_eq_some_iff.1 q2).1
      have l8 : b8 < w4.heap.size := q4.lt
      have lo : ob < w4.heap.size := q5.lt
      have hs := q1.size
      rw [e1_zero, r1_zero]
      exact Lib.hid ⟨q1.trans hI.kept, kept_heap hI.kept q2, kept_heap hI.kept q3, f4'', q4.kept hI.kept, hx ▸ f5'', q5.kept hI.kept, ⟨by simp, .inl ⟨rfl, rfl⟩⟩, own_of_made f2'' (by omega) (by omega), fun q e => by simp [Value.ownBlock] at e, by omega, by omega, by omega, by omega, by omega⟩
    simp only [putD, List.size_toArray, List.length_cons, List.length_nil, List.setIfInBounds_toArray, List.set_cons_zero, List.set_cons_succ, Nat.reduceAdd, List.getD_cons_zero, List.getD_cons_succ, f0, f1, f2, f3, f4, f5]
    have HT5 := Lib.hid (HT4.out.kept hI.kept)
    have hlo : b4 < W.heap.size := (Array.getElem?_eq_some_iff.1 hst2.out.c4).1
    clear f0 f1 f2 f3 f4 f5 f2' f2'' f4' f4'' f4e f5' f5'' f5e hI hall hst HT4 hm
    have c6 := bx_cell hst2.out.c6 0 _ rfl
    go_wp2
    clear c6
    have hrx : rN g f 0 = y := hx
    generalize hvt : Value.tuple #[.slice (some ⟨ob, 0, none⟩) g.length g.length, .agg (setC (hdN g f))] = vt
    generalize hvh : Value.agg (setC (hdN g f)) = vh
    generalize hvz : Value.agg (setC 0) = vz
    generalize hvr : Value.agg (setC (rN g f 0)) = vr
    generalize hvy : Value.agg (setC y) = vy
    clear hvt hvh hvz hvr hvy
    refine wp_loop_k (fun m a W => ∃ (k : Nat) (l : List Nat) (s12 s33 s34 s35 s36 s37 s47 : Value), a = { tmps := #[.slice (some ⟨gb, 0, none⟩) g.length g.length, .int .i64 f, undef, undef, .pointer (some ⟨b4, 0, none⟩), .bool false, .pointer (some ⟨b6, 0, none⟩), .pointer (some ⟨b7, 0, none⟩), .pointer (some ⟨b8, 0, none⟩), .pointer (some ⟨b9, 0, none⟩), .pointer (some ⟨b10, 0, none⟩), undef, s12, undef, undef, undef, vt, .slice (some ⟨gb, 0, none⟩) g.length g.length, .int .i64 f, vt, .slice (some ⟨ob, 0, none⟩) g.length g.length, vh, .slice (some ⟨gb, 0, none⟩) g.length g.length, .int .i64 f, vz, vr, .slice (some ⟨gb, 0, none⟩) g.length g.length, .int .i64 (g.length : Int), .slice (some ⟨gw, 0, none⟩) g.length g.length, vy, .slice (some ⟨ob, 0, none⟩) g.length g.length, .int .i64 (g.length : Int), .int .i64 (k : Int), s33, s34, s35, s36, s37, undef, undef, undef, undef, undef, undef, undef, undef, undef, s47, undef, undef, undef, undef, undef, undef, undef, undef, undef, undef, undef, undef, undef, undef, undef, undef, undef, undef, undef, undef, undef, undef, undef, undef, undef, undef, undef, undef, undef, undef, undef, undef, undef, undef], defers := l.map mkD } ∧ m = g.length - k ∧ k ≤ g.length ∧ Hid (OrI w W b4 b6 b8 b9 b10 ob gw g f (.slice none 0 0) [] (waL g.length (E1 g f k [])) (R1 g f k [])) ∧ Hid (MarksL w.heap.size W.heap.size W l)) g.length
      ⟨0, [], _, _, _, _, _, _, _, rfl, by omega, by omega, hst2, Lib.hid (MarksL.nil _ _ _)⟩ ?_
    have HT6 : Hid (∀ W', Kept w W' → Tab W') := Lib.hid (fun W' h => HT.out.kept h)
    clear hst2
    rintro m a W ⟨k, l, s12, s33, s34, s35, s36, s37, s47, rfl, rfl, hk2, HK, HM⟩ KK hKK
    have HKK := Lib.hid hKK
    clear hKK
    dsimp only
    by_cases hlt : k < g.length
    case neg =>
      obtain rfl : k = g.length := by omega
      rw [waL_congr (fun a b _ _ => e1_end), r1_end] at HK
      clear hlt
      go_wp2
      go_step3
      go_wp2
      clear HKK
      refine wp_loop_k (fun m a W => ∃ (dl l : List Nat) (vo s48 s49 : Value), a = { tmps := #[.slice (some ⟨gb, 0, none⟩) g.length g.length, .int .i64 f, undef, undef, .pointer (some ⟨b4, 0, none⟩), .bool false, .pointer (some ⟨b6, 0, none⟩), .pointer (some ⟨b7, 0, none⟩), .pointer (some ⟨b8, 0, none⟩), .pointer (some ⟨b9, 0, none⟩), .pointer (some ⟨b10, 0, none⟩), undef, s12, undef, undef, undef, vt, .slice (some ⟨gb, 0, none⟩) g.length g.length, .int .i64 f, vt, .slice (some ⟨ob, 0, none⟩) g.length g.length, vh, .slice (some ⟨gb, 0, none⟩) g.length g.length, .int .i64 f, vz, vr, .slice (some ⟨gb, 0, none⟩) g.length g.length, .int .i64 (g.length : Int), .slice (some ⟨gw, 0, none⟩) g.length g.length, vy, .slice (some ⟨ob, 0, none⟩) g.length g.length, .int .i64 (g.length : Int), .int .i64 (g.length : Int), .bool false, s34, s35, s36, s37, undef, undef, undef, undef, undef, undef, undef, undef, undef, s47, s48, s49, undef, undef, undef, undef, undef, undef, undef, undef, undef, undef, undef, undef, undef, undef, undef, undef, undef, undef, undef, undef, undef, undef, undef, undef, undef, undef, undef, undef, undef, undef, undef, undef], defers := l.map mkD } ∧ m = cntR g f - dl.length ∧ Hid (Ord g f dl) ∧ Hid (OrI w W b4 b6 b8 b9 b10 ob gw g f vo dl (waL g.length (E2 g f dl)) (R2 g f dl)) ∧ Hid (MarksL w.heap.size W.heap.size W l)) (cntR g f)
        ⟨[], l, _, _, _, rfl, by simp, Lib.hid ord_start, HK, HM⟩ ?_
      clear HK HM
      rintro m a Wl ⟨dl, l, vo, s48, s49, rfl, rfl, HO, HK, HM⟩ KK hKK
      have HKK := Lib.hid hKK
      clear hKK
      dsimp only
      obtain ⟨r, hr⟩ : ∃ r, R2 g f dl = r := ⟨_, rfl⟩
      have hrb : r < 4294967296 := by rw [← hr]; exact Nat.lt_of_lt_of_le R2_lt (Nat.pow_le_pow_right (n := 2) (j := 32) (by decide) (by omega))
      have HB10 := HK.out.x10
      rw [hr] at HB10
      have HR := Lib.hid hr
      go_wp2_with (refine wpList_load_row rfl _ _ rfl b10 rfl 42 (setC r) (0, 0) _ HB10 Tryd.underlying42 rfl (info42 r) ?_)
      clear HB10
      have hlw6 := HK.out.kept.size
      refine (wpIn_wide (n := 0)).1 (range_out (x := r) (I := fun pre W' => pre = [] ∧ OrI w W' b4 b6 b8 b9 b10 ob gw g f vo dl (waL g.length (E2 g f dl)) (R2 g f dl) ∧ MarksL w.heap.size Wl.heap.size W' l)
        (Ix := fun c pre W' => c = .exit 5 ∧ ∃ at' vo', nextF g f dl = some at' ∧ OrI w W' b4 b6 b8 b9 b10 ob gw g f vo' (dl ++ [at']) (waL g.length (E2 g f (dl ++ [at']))) (R2 g f (dl ++ [at'])) ∧ MarksL w.heap.size Wl.heap.size W' l) hrb rfl
        (Owes.fix (af := ?af2) rfl (fun pre => (Stb.pure _ _).and ((stb_or hlw6).and (stb_marks _ _ _ (Nat.le_refl _) _))) (fun _ _ => (Stb.pure _ _).and (Stb.ex fun _ => Stb.ex fun _ => (Stb.pure _ _).and ((stb_or hlw6).and (stb_marks _ _ _ (Nat.le_refl _) _)))) (fun _ _ h => HT6.out _ h.2.1.kept) ?assign2 ?body2) ⟨rfl, HK.out, HM.out⟩ ?done2 ?stop2)
      case assign2 =>
        intro l2 i W' K hK
        gi_wp2
        exact hK
      case stop2 =>
        rintro D c pre W' hD - ⟨rfl, at', vo', hn, hi', hm'⟩ hk
        have hfr := nextF_some hn
        have hgs := (HO.out.good.snoc hfr).len
        rw [List.length_append, List.length_singleton] at hgs
        have HO2 := Lib.hid (HO.out.next (by omega) hn)
        have hDs := (Array.getElem?_eq_some_iff.1 hk).1
        have HMn := Lib.hid ((hm'.snoc hlw6 hD hk).high hDs)
        have HIn := Lib.hid hi'
        clear hi' hm' HK HM
        refine wpIn_wide.2 ?_
        go_wp2
        exact HKK.out _ _ (cntR g f - (dl ++ [at']).length) (by simp; omega) ⟨dl ++ [at'], D :: l, vo', _, _, rfl, rfl, HO2, HIn, HMn⟩
      case done2 =>
        rintro D W' hD ⟨hp, hi', hm'⟩ hk
        have hno := next_no (dl := dl) (f := f) hl (by rw [HR.out]; exact hp)
        have hdl := HO.out.stop hno
        have HIn := Lib.hid hi'
        have HMn := Lib.hid (hm'.snoc hlw6 hD hk)
        clear hi' hm' HK HM
        obtain ⟨oa, oc, hvo⟩ := own_form HIn.out.row
        subst hvo
        have hct : (bitsL (rN g f 0)).length = cntR g f := by
          unfold rN
          rw [setN_bitsL (by omega)]
          unfold cntR reN
          congr 1
          exact List.filter_congr fun a _ => by rw [decide_eq_decide, rW_zero]; rfl
        have hq : ((dl.length : Int) == ((cntR g f : Nat) : Int)) = redB g f := by
          rw [Bool.eq_iff_iff]
          unfold redB
          rw [beq_iff_eq, decide_eq_true_iff, ← hdl]
          omega
        dsimp only
        have hHlt : rN g f 0 < 4294967296 := Nat.lt_of_lt_of_le (rN_lt g f 0) (Nat.pow_le_pow_right (n := 2) (j := 32) (by decide) (by omega))
        have HCt := Lib.hid (fun W => count_any W (rN g f 0) hHlt)
        rw [hct] at HCt
        go_upto_region 21 with fail
        refine (wpIn_wide (n := 0)).1 ?_
        refine region_ds [some 76, some 77, some 78, some 79, some 80, some 81, none, some 5]
          (fun i => [.slice oa dl.length oc, .slice oa dl.length oc, .int .i64 (dl.length : Int), .agg (setC (rN g f 0)), .int .i64 ((cntR g f : Nat) : Int), .bool (redB g f), undef, .bool (redB g f)].getD i undef)
          (fun _ W => OrI w W b4 b6 b8 b9 b10 ob gw g f (.slice oa dl.length oc) dl (waL g.length (E2 g f dl)) (R2 g f dl) ∧ MarksL w.heap.size (D + 1) W (D :: l))
          82 (by kernel_rfl) (by simp) (by kernel_rfl) (by kernel_rfl) (by kernel_rfl) ⟨HIn.out.keep ((Kept.refl _).drewN 1), HMn.out.kept ((Kept.refl _).drewN 1)⟩ ?hstep4 ?hend4
        case hend4 =>
          intro L W hall ⟨hJ, hM⟩
          have HJ := Lib.hid hJ
          have HMe := Lib.hid hM
          clear hJ hM HIn HMn hall hq hct HCt
          simp only [putD, List.size_toArray, List.length_cons, List.length_nil, List.setIfInBounds_toArray, List.set_cons_zero, List.set_cons_succ, Nat.reduceAdd, List.getD_cons_zero, List.getD_cons_succ]
          go_wp2
          try rw [Exit.noGoto_ret]
          refine leaves_marks (D :: l) W HMe.out.nd (fun D hD => (HMe.out.is D hD).2.2) fun W' hc => ?_
          have hne : ∀ q cs t, W.heap[q]? = some (.cells cs t (0, 0)) → q ∉ D :: l := fun q cs t hq hin => by
            have := (HMe.out.is q hin).2.2
            rw [hq] at this
            cases this
          refine ⟨_, res_cell rfl rfl rfl (hc.heap HJ.out.c4 (hne _ _ _ HJ.out.c4)), _, rfl, Lib.hid ⟨Kept.trans_chg HJ.out.kept hc fun D hD => (HMe.out.is D hD).1, ?_⟩⟩
          rw [← hdl]
          exact own_chg HJ.out.row hc fun b hb hin => by
            obtain ⟨_, _, c, hcs⟩ := own_ty HJ.out.row hb
            exact hne _ _ _ hcs hin
        case hstep4 =>
          intro i o L a W K ho hf hL hdep hev hold ⟨hJ, hM⟩ hK
          have hi8 : i < 8 := by have := (Array.getElem?_eq_some_iff.1 ho).1; simpa using this
          rcases (by omega : i = 0 ∨ i = 1 ∨ i = 2 ∨ i = 3 ∨ i = 4 ∨ i = 5 ∨ i = 6 ∨ i = 7) with rfl | rfl | rfl | rfl | rfl | rfl | rfl | rfl
          · obtain rfl := Option.some.inj ho
            exact opIn_loadW rfl ((hold 4 (by kernel_rfl)).trans rfl) (loadVar_one Tryd.isAgg23 (bx_cell hJ.c4 0 _ rfl)) (hK _ ⟨hJ, hM⟩)
          · obtain rfl := Option.some.inj ho
            exact opIn_loadW rfl ((hold 4 (by kernel_rfl)).trans rfl) (loadVar_one Tryd.isAgg23 (bx_cell hJ.c4 0 _ rfl)) (hK _ ⟨hJ, hM⟩)
          · obtain rfl := Option.some.inj ho
            exact opIn_len rfl (hev 1 77 (by simp) rfl (dep_of hdep (by kernel_rfl))) Tryd.underlying23 (hK _ ⟨hJ, hM⟩)
          · obtain rfl := Option.some.inj ho
            exact opIn_loadW rfl ((hold 8 (by kernel_rfl)).trans rfl) hJ.x8.load (hK _ ⟨hJ, hM⟩)
          · obtain rfl := Option.some.inj ho
            refine opIn_callW (args := #[.agg (setC (rN g f 0))]) rfl (by simp [hev 3 79 (by simp) rfl (dep_of hdep (by kernel_rfl))]) (enters_of Tryd.func39 (by kernel_rfl) rfl _) (fun _ => trivial) (fun h => by cases h) (callsIn_wide.2 (HCt.out W)) ?_
            rintro e W2 ⟨rfl, h⟩
            exact ⟨_, rfl, hK _ ⟨hJ.keep h, hM.kept h⟩⟩
          · obtain rfl := Option.some.inj ho
            refine opIn_eql rfl (hev 2 78 (by simp) rfl (dep_of hdep (by kernel_rfl))) (hev 4 80 (by simp) rfl (dep_of hdep (by kernel_rfl))) ?_
            rw [hq]
            exact hK _ ⟨hJ, hM⟩
          · obtain rfl := Option.some.inj ho
            exact opIn_store rfl ((hold 4 (by kernel_rfl)).trans rfl) (hev 0 76 (by simp) rfl (dep_of hdep (by kernel_rfl))) (storeVar_one Tryd.sizeOf23 rfl rfl (bx_cell hJ.c4 0 _ rfl) (bx_froz hJ.c4 0) rfl) (hK _ ⟨hJ.set4, hM.chg (chg_set W b4 0 _) fun k e => by subst e; exact ⟨_, _, _, hJ.c4⟩⟩)
          · obtain rfl := Option.some.inj ho
            exact opIn_assignW rfl (hev 5 81 (by simp) rfl (dep_of hdep (by kernel_rfl))) (hK _ ⟨hJ, hM⟩)
      case body2 =>
        rintro l2 pre i W' hB2 ⟨rl, hrl⟩ ⟨rfl, hi', hm'⟩ hp
        rw [List.nil_append] at hp
        have hn := next_of (dl := dl) (f := f) hl (by rw [HR.out]; exact hp)
        have hfr := nextF_some hn
        have hin : i < g.length := hfr.1.2.lt
        have hgd := HO.out.good.snoc hfr
        have hlen : dl.length + 1 ≤ 30 := by
          have h1 := hgd.len
          have h2 := cntU_le (g := g) (f := f) g.length
          rw [cntU_end] at h2
          rw [List.length_append, List.length_singleton] at h1
          omega
        have hrs := r3_zero hl hfr
        have HD := Lib.hid (fun W h => box_drop W b10 (R2 g f dl) i (by rw [hr]; omega) (by omega) h)
        rw [hrs] at HD
        rw [waL_congr (fun a b _ _ => e3_zero (g := g) (f := f) (i := i) hfr.2.1)] at hi'
        have HI := Lib.hid hi'
        have HM8 := Lib.hid hm'
        have Hn := Lib.hid hn
        have Hfr := Lib.hid hfr
        have Hgd := Lib.hid hgd
        clear hi' hm' hrs hp hn hfr hgd HK HM
        gi_upto_region 15 with (refine ⟨trivial, rfl, ?_⟩; gi_at_call 41; refine (CallsIn.inRound l2 (callsIn_wide.2 (HD.out _ HI.out.x10))).mono ?_; rintro e W8 ⟨rfl, H8⟩)
        have hk8 : Hid (KeepsFrom 0 W' W8) := Lib.hid (keeps_chg H8.out.1 fun q e _ => by subst e; exact HI.out.x10.cells)
        have HI8 := Lib.hid (HI.out.chg10 H8.out.1 H8.out.2)
        clear HI HD H8
        have c4 := bx_cell HI8.out.c4 0 _ rfl
        have hbase := HI8.out.kept.size
        gi_upto_region 16 with (gi_at_builtin; refine wpListIn_append_lies rfl (.tmp 53) (.tmp 55) 23 rfl w.heap.size 3 i0 _ 1 8 Tryd.underlying23 Hi.out.1 Hi.out.2.1 Hi.out.2.2.1 Hi.out.2.2.2 rfl (by omega) vo dl.length (dl.map vn) rfl (own_kept HI8.out.row ((Kept.refl W8).alloc _)) ⟨W8.heap.size, 0, none⟩ 1 1 [.int .i64 (i : Int)] rfl rfl (World.news_of_block (cs := #[.int .i64 (i : Int)]) (heap_alloc_new W8 _)) (by simp [Value.oneCell']) (by omega) (by simp only [maxLen]; omega) (by omega) (by simp; omega) ?_; intro g7 cap7 W9 hown hgrow hat hlt7; have c49 := bx_cell (HI8.out.grown4 hgrow) 0 _ rfl; have f49 := bx_froz (HI8.out.grown4 hgrow) 0; have HI9 := Lib.hid (HI8.out.push (i := i) hgrow hown hat); have hk9 := Lib.hid (hk8.out.trans (HI8.out.pushk (u := .slice (some ⟨g7, 0, none⟩) (dl.length + 1) cap7) hgrow)); clear hown hgrow hat c4)
        clear c49 f49
        generalize W9.setCell ⟨b4, 0, none⟩ (.slice (some ⟨g7, 0, none⟩) (dl.length + 1) cap7) = W10 at *
        have hzb : onN g f i < 4294967296 := setN_lt' (m := 32) (by omega) _
        have hSA := Lib.hid (show SetAt W10 ob (i * 32) (onN g f i) from by
          have := HI9.out.on.at (j := i) (by simp [onL]; exact hin)
          rw [show (onL g f)[i]'(by simp [onL]; exact hin) = onN g f i by simp [onL]] at this
          exact this)
        refine wpIn_region_lit ?_
        refine st_step rfl (opIn_loadW (p := ⟨b6, 0, none⟩) (v := .slice (some ⟨ob, 0, none⟩) g.length g.length) rfl rfl (loadVar_one Tryd.isAgg36 (bx_cell HI9.out.c6 0 _ rfl)) ?_)
        simp only [Act.put, List.setIfInBounds_toArray, List.set_cons_zero, List.set_cons_succ]
        refine st_step rfl (opIn_moveW (v := .int .i64 (i : Int)) rfl rfl ?_)
        simp only [Act.put, List.setIfInBounds_toArray, List.set_cons_zero, List.set_cons_succ]
        refine st_step rfl (opIn_indexW (b := ob) (m := g.length) (c := g.length) (j := i) (sz := 32) rfl rfl rfl Tryd.underlying36 (Tryd.sizeOf42) hin ?_)
        simp only [Act.put, List.setIfInBounds_toArray, List.set_cons_zero, List.set_cons_succ]
        refine st_step rfl (opIn_loadW (p := ⟨ob, i * 32, none⟩) (v := .agg (setC (onN g f i))) rfl rfl hSA.out.load ?_)
        simp only [Act.put, List.setIfInBounds_toArray, List.set_cons_zero, List.set_cons_succ]
        refine st_step rfl (opIn_makeAll (v := .agg (setC (onN g f i))) rfl rfl ?_)
        simp only [Act.put, List.setIfInBounds_toArray, List.set_cons_zero, List.set_cons_succ]
        simp only [wpListIn]
        clear hSA HI8 hk8 hbase hlt7
        have hlw9 := HI9.out.kept.size
        gi_wp2
        refine range_in (hk9.out.same l2 _ (Nat.zero_le _) hrl rfl) (x := onN g f i) (I := fun pre W => OrI w W b4 b6 b8 b9 b10 ob gw g f (.slice (some ⟨g7, 0, none⟩) (dl.length + 1) cap7) (dl ++ [i]) (waL g.length (E3 g f (dl ++ [i]) i pre)) (R3 g f (dl ++ [i]) i pre) ∧ KeepsFrom 0 W10 W) (Ix := fun _ _ _ => False) hzb rfl
          (Owes.fix (af := ?af3) rfl (fun pre => (stb_or hlw9).and (stb_keeps W10 (Nat.le_refl _))) (fun _ _ => Stb.pure _ _) (fun _ _ h => HT6.out _ h.1.kept) ?assign3 ?body3) ⟨HI9.out, KeepsFrom.refl _ _⟩ ?done3 ?stop3
        case assign3 =>
          intro l3 j W3 K hK
          gi_wp2
          exact hK
        case stop3 =>
          intro c pre W _ h
          exact h.elim
        case done3 =>
          rintro W3 ⟨hi3, hk3⟩
          rw [waL_congr (fun a b _ _ => e3_end hl), r3_end hl] at hi3
          have hk4 := hk9.out.trans hk3
          gi_wp2
          exact ⟨KeepsFrom.low0 hk4, rfl, i, _, Hn.out, hi3, HM8.out.keeps hk4⟩
        case body3 =>
          rintro l3 pre j W3 hB3 - ⟨hi3, hk3⟩ hp
          obtain ⟨hnp, hjn, hpj⟩ := nd_set hl hp
          have hto : onTo g f i j := by rw [decide_eq_true_eq] at hpj; exact hpj
          have hstep := fun a b (_ : a < g.length) (_ : b < g.length) => e3_step (g := g) (f := f) (dl := dl ++ [i]) (k := i) (i := j) (pre := pre) (a := a) (b := b) hto hnp
          have hXl : ((waL g.length (E3 g f (dl ++ [i]) i pre)).map vi).length = g.length := by rw [List.length_map, waL_len]
          obtain ⟨_, e, _, _, _, cj, fj⟩ := own_at hi3.wa (j := j) (by rw [hXl]; exact hjn)
          injection e with e
          injection e with e
          subst e
          have hcnt : cntE g.length (E3 g f (dl ++ [i]) i pre) j = cntE g.length (E3 g f (dl ++ [i]) i (pre ++ [j])) j + 1 := cntE_add hin (e3_not (by simp)) fun a ha => by
            rw [hstep a j ha hjn]; simp
          obtain ⟨cn, hcn⟩ : ∃ c : Nat, cntE g.length (E3 g f (dl ++ [i]) i (pre ++ [j])) j = c := ⟨_, rfl⟩
          have dj : ((waL g.length (E3 g f (dl ++ [i]) i pre)).map vi)[j]'(by rw [hXl]; exact hjn) = .int .i64 ((cn : Int) + 1) := by simp [waL, vi, hcnt, hcn]
          rw [dj] at cj
          have hcl := cntE_le g.length (E3 g f (dl ++ [i]) i (pre ++ [j])) j
          rw [hcn] at hcl
          have hwr0 : IntKind.i64.wrap ((cn : Int) + 1 - 1) = (cn : Int) := by
            rw [show (cn : Int) + 1 - 1 = (cn : Int) by omega]
            exact IntWalk.i64_in _ (by omega)
          have hnew := hi3.setw j (cn : Int)
          have hupd := (waL_upd hstep).2
          rw [hcn] at hupd
          rw [hupd] at hnew
          have HN := Lib.hid hnew
          have hqz : ((cn : Int) == 0) = true ↔ ∀ a, onTo g f a j → a ∈ dl ++ [i] := by
            rw [beq_iff_eq, ← e3_none (g := g) (f := f) (dl := dl ++ [i]) (k := i) (pre := pre) (i := j), ← cntE_zero, hcn]
            omega
          have HQz := Lib.hid hqz
          obtain ⟨c1, hc1⟩ : ∃ c1 : Int, (cn : Int) + 1 = c1 := ⟨_, rfl⟩
          rw [hc1] at cj hwr0
          obtain ⟨c0, hc0⟩ : ∃ c0 : Int, (cn : Int) = c0 := ⟨_, rfl⟩
          rw [hc0] at hwr0 HN HQz
          have hk4 : Hid (KeepsFrom 0 W10 (W3.setCell ⟨gw, j, none⟩ (.int .i64 c0))) := Lib.hid (hk3.trans (keeps_chg (chg_set W3 gw j _) fun q e _ => by subst e; obtain ⟨_, _, c, hc⟩ := own_ty hi3.wa rfl; exact ⟨_, _, _, hc⟩))
          have hk40 : Hid (KeepsFrom 0 W3 (W3.setCell ⟨gw, j, none⟩ (.int .i64 c0))) := Lib.hid (keeps_chg (chg_set W3 gw j _) fun q e _ => by subst e; obtain ⟨_, _, c, hc⟩ := own_ty hi3.wa rfl; exact ⟨_, _, _, hc⟩)
          have hcj2 : (W3.setCell ⟨gw, j, none⟩ (.int .i64 c0)).cell? ⟨gw, j, none⟩ = some (.int .i64 c0) := World.cell?_setCell_same _ _ _ cj
          have c9 := bx_cell hi3.c9 0 _ rfl
          have hc2 : ∃ u, W3.cell? ⟨gw, j, none⟩ = some u := ⟨_, cj⟩
          clear hi3 hk3 hp hpj hstep hcnt hcl hnew hupd hqz dj hcn hc1 hc0
          gi_upto_region 19 with fail
          try rw [hwr0]
          generalize W3.setCell ⟨gw, j, none⟩ (.int .i64 c0) = W4 at *
          clear c9 hc2 cj fj
          refine wpIn_region_lit ?_
          refine st_step rfl (opIn_loadW (p := ⟨b9, 0, none⟩) (v := .slice (some ⟨gw, 0, none⟩) g.length g.length) rfl rfl (loadVar_one Tryd.isAgg23 (bx_cell HN.out.c9 0 _ rfl)) ?_)
          simp only [Act.put, List.setIfInBounds_toArray, List.set_cons_zero, List.set_cons_succ]
          refine st_step rfl (opIn_moveW (v := .int .i64 (j : Int)) rfl rfl ?_)
          simp only [Act.put, List.setIfInBounds_toArray, List.set_cons_zero, List.set_cons_succ]
          refine st_step rfl (opIn_indexW (b := gw) (m := g.length) (c := g.length) (j := j) (sz := 1) rfl rfl rfl Tryd.underlying23 (Tryd.sizeOf3) hjn ?_)
          simp only [Act.put, List.setIfInBounds_toArray, List.set_cons_zero, List.set_cons_succ]
          refine st_step rfl (opIn_loadW (p := ⟨gw, j * 1, none⟩) (v := .int .i64 c0) rfl rfl (loadVar_one Tryd.isAgg3 (by rw [Nat.mul_one]; exact hcj2)) ?_)
          simp only [Act.put, List.setIfInBounds_toArray, List.set_cons_zero, List.set_cons_succ]
          refine st_step rfl (opIn_eql (p := c0) (q := 0) rfl rfl rfl ?_)
          obtain ⟨q, hq⟩ : ∃ q, (c0 == (0 : Int)) = q := ⟨_, rfl⟩
          rw [hq]
          simp only [Act.put, List.setIfInBounds_toArray, List.set_cons_zero, List.set_cons_succ]
          simp only [wpListIn]
          rw [hq] at HQz
          clear hcj2
          cases q
          · have hno : ¬ ∀ a, onTo g f a j → a ∈ dl ++ [i] := fun h => by cases HQz.out.2 h
            have hfin := HN.out
            rw [r3_not hno] at hfin
            have Hfin := Lib.hid hfin
            clear hfin hno
            gi_wp2
            exact ⟨KeepsFrom.low0 hk40.out, trivial, Hfin.out, hk4.out⟩
          · have hall := HQz.out.1 rfl
            have hrs := r3_add (pre := pre) Hgd.out hto hall
            have hrb2 : R3 g f (dl ++ [i]) i pre < 18446744073709551616 := Nat.lt_of_lt_of_le R3_lt (Nat.pow_le_pow_right (n := 2) (j := 64) (by decide) (by omega))
            have HA := Lib.hid (box_add W4 b10 (R3 g f (dl ++ [i]) i pre) j hrb2 (by omega) HN.out.x10)
            rw [hrs] at HA
            clear hall hrs hrb2
            gi_wp2_with (refine ⟨trivial, rfl, ?_⟩; gi_at_call 35; refine (CallsIn.inRound l3 (callsIn_wide.2 HA.out)).mono ?_; rintro e W5 ⟨rfl, H5⟩)
            have hk5 : KeepsFrom 0 W4 W5 := keeps_chg H5.out.1 fun q e _ => by subst e; exact HN.out.x10.cells
            exact ⟨KeepsFrom.low0 (hk40.out.trans hk5), trivial, HN.out.chg10 H5.out.1 H5.out.2, hk4.out.trans hk5⟩
    case pos =>
      have hol : k < (onL g f).length := by simp [onL]; exact hlt
      have hoz : (onL g f)[k] = onN g f k := by simp [onL]
      obtain ⟨z, hz⟩ : ∃ z, onN g f k = z := ⟨_, rfl⟩
      have hzb : z < 4294967296 := by rw [← hz]; exact setN_lt' (m := 32) (by omega) _
      have HZ := Lib.hid (fun W' (h : Kept W W') => show SetAt W' ob (k * 32) z from by have := (HK.out.on.kept h).at hol; rw [hoz, hz] at this; exact this)
      have HB12 := Box.new W z
      have hsc := store_new W z
      rw [setC_zero] at hsc
      have hA := Lib.hid ((Kept.refl W).alloc (.cells (setC z) 42))
      go_upto_region 7 with (refine wpList_load_set rfl _ rfl ob (k * 32) z rfl (HZ.out _ (Kept.refl _)) ?_)
      have HK6 := Lib.hid (HK.out.keep hA.out)
      have HM6 := Lib.hid (HM.out.kept hA.out)
      have hsz6 : W.heap.size < (W.alloc (.cells (setC z) 42)).heap.size := by simp
      have hlw6 := HK6.out.kept.size
      clear hsc HK HZ hA HM
      generalize W.alloc (.cells (setC z) 42) = W6 at *
      have HM7 := Lib.hid (HM6.out.high (Nat.le_of_lt hsz6))
      clear HM6
      generalize hb12 : W.heap.size = b12 at *
      go_wp2_with (refine wpList_load_row rfl _ _ rfl b12 rfl 42 (setC z) (0, 0) _ HB12 Tryd.underlying42 rfl (info42 z) ?_)
      clear HB12
      have hst6 : Hid (OrI w W6 b4 b6 b8 b9 b10 ob gw g f (.slice none 0 0) [] (waL g.length (E1 g f k [])) (R1 g f k []) ∧ MarksL w.heap.size W6.heap.size W6 l) := Lib.hid ⟨HK6.out, HM7.out⟩
      clear HK6 HM7
      refine (wpIn_wide (n := 0)).1 (range_out (x := z) (I := fun pre W' => OrI w W' b4 b6 b8 b9 b10 ob gw g f (.slice none 0 0) [] (waL g.length (E1 g f k pre)) (R1 g f k pre) ∧ MarksL w.heap.size W6.heap.size W' l) (Ix := fun _ _ _ => False) hzb rfl
        (Owes.fix (af := ?af) rfl (fun pre => (stb_or hlw6).and (stb_marks _ _ _ (Nat.le_refl _) _)) (fun _ _ => Stb.pure _ _) (fun _ _ h => HT6.out _ h.1.kept) ?assign ?body) hst6.out ?done ?stop)
      case assign =>
        intro l2 i W' K hK
        gi_wp2
        exact hK
      case body =>
        rintro l2 pre i W' hB2 - ⟨hi', hm'⟩ hp
        have hp2 := hp
        rw [← hz] at hp2
        obtain ⟨hnp, hin, hpi⟩ := nd_set hl hp2
        have hto : onTo g f k i := by rw [decide_eq_true_eq] at hpi; exact hpi
        have hXl : ((waL g.length (E1 g f k pre)).map vi).length = g.length := by rw [List.length_map, waL_len]
        obtain ⟨_, e, _, _, _, ci, fi⟩ := own_at hi'.wa (j := i) (by rw [hXl]; exact hin)
        injection e with e
        injection e with e
        subst e
        have di : ((waL g.length (E1 g f k pre)).map vi)[i]'(by rw [hXl]; exact hin) = .int .i64 (cntE g.length (E1 g f k pre) i : Int) := by simp [waL, vi, hin]
        rw [di] at ci
        have hstep := fun a b (_ : a < g.length) (_ : b < g.length) => e1_step (g := g) (f := f) (k := k) (i := i) (pre := pre) (a := a) (b := b) hto
        have hcnt : cntE g.length (E1 g f k (pre ++ [i])) i = cntE g.length (E1 g f k pre) i + 1 := cntE_add hto.lt.1 (e1_not hnp) fun a ha => by
          rw [hstep a i ha hin]; simp
        have hnew := hi'.setw i ((cntE g.length (E1 g f k pre) i : Int) + 1)
        have hupd := (waL_upd hstep).1
        rw [hcnt] at hupd
        have hcl := cntE_le g.length (E1 g f k pre) i
        rw [show ((cntE g.length (E1 g f k pre) i + 1 : Nat) : Int) = (cntE g.length (E1 g f k pre) i : Int) + 1 by omega] at hupd
        rw [hupd] at hnew
        have HN := Lib.hid hnew
        have hwr : IntKind.i64.wrap ((cntE g.length (E1 g f k pre) i : Int) + 1) = (cntE g.length (E1 g f k pre) i : Int) + 1 := IntWalk.i64_in _ (by omega)
        have c9 := bx_cell hi'.c9 0 _ rfl
        have hk1 : Hid (KeepsFrom 0 W' (W'.setCell ⟨gw, i, none⟩ (.int .i64 ((cntE g.length (E1 g f k pre) i : Int) + 1)))) := Lib.hid (keeps_chg (chg_set W' gw i _) fun q e _ => by subst e; obtain ⟨_, _, c, hc⟩ := own_ty hi'.wa rfl; exact ⟨_, _, _, hc⟩)
        have hrs := r1_step (g := g) (f := f) (k := k) (i := i) (pre := pre) hl hto
        have hrb : R1 g f k pre < 18446744073709551616 := Nat.lt_of_lt_of_le R1_lt (Nat.pow_le_pow_right (n := 2) (j := 64) (by decide) (by omega))
        have HD := Lib.hid (fun W h => box_drop W b10 (R1 g f k pre) i hrb (by omega) h)
        rw [hrs] at HD
        have HM8 := Lib.hid hm'
        obtain ⟨cn, hcn⟩ : ∃ c : Nat, cntE g.length (E1 g f k pre) i = c := ⟨_, rfl⟩
        rw [hcn] at ci hwr HN hk1
        have hc2 : ∃ u, W'.cell? ⟨gw, i, none⟩ = some u := ⟨_, ci⟩
        clear hi' hm' hp hp2 hpi hstep hcnt hnew hupd hcl hcn di hrs hrb
        gi_upto_region 10 with fail
        try rw [hwr]
        have HN2 := HN.out.x10
        have hk2 := hk1.out
        generalize W'.setCell ⟨gw, i, none⟩ (.int .i64 ((cn : Int) + 1)) = W7 at *
        clear c9 ci hc2 hk1
        gi_wp2_with (refine ⟨trivial, rfl, ?_⟩; gi_at_call 41; refine (CallsIn.inRound l2 (callsIn_wide.2 (HD.out _ HN2))).mono ?_; rintro e W8 ⟨rfl, H8⟩)
        have hk3 : KeepsFrom 0 W' W8 := hk2.trans (keeps_chg H8.out.1 fun q e _ => by subst e; exact HN.out.x10.cells)
        exact ⟨KeepsFrom.low0 hk3, trivial, HN.out.chg10 H8.out.1 H8.out.2, HM8.out.keeps hk3⟩
      case done =>
        rintro D W' hD ⟨hi', hm'⟩ hk
        rw [← hz] at hi'
        rw [waL_congr (fun a b _ _ => e1_row hl), r1_congr (fun a b => e1_row hl)] at hi'
        have HIn := Lib.hid hi'
        have hDs := (Array.getElem?_eq_some_iff.1 hk).1
        have HMn := Lib.hid ((hm'.snoc hlw6 hD hk).high hDs)
        clear hi' hm' hst6
        dsimp only
        go_wp2
        exact HKK.out _ _ (g.length - (k + 1)) (by omega) ⟨k + 1, D :: l, _, _, _, _, _, _, _, rfl, rfl, by omega, HIn, HMn⟩
      case stop =>
        intro D c pre W _ _ h
        exact h.elim
end Go.Proofs.YtpkebokfbigggaaDoor.Shp
