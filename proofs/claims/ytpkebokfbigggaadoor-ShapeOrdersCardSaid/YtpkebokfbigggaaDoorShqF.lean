/-
  Package shape: Reach.
-/
import Derived.Test.YtpkebokfbigggaaDoorShqE
namespace Go.Proofs.YtpkebokfbigggaaDoor.Shp
open Go.RowKit Go.Shelf
open Classical
attribute [local go_sem] Oper.semAt_some

/-- The marks of the function's deferred calls, each a block for the calls of a loop's rounds: none was deferred. -/
def Marks (w0 : Nat) (W : World) : List Deferred → Prop
  | [] => True
  | d :: ds => ∃ D, d = { target := .collected D, args := #[] } ∧ w0 ≤ D ∧ W.heap[D]? = some (.deferred (some [])) ∧ (∀ d' ∈ ds, ∀ D', d' = { target := .collected D', args := #[] } → D' ≠ D) ∧ Marks w0 W ds
theorem leaves_one {fn : Func} {tmps : Array Value} {R : Ending → World → Prop} {W : World} {D : Nat} (hk : W.heap[D]? = some (.deferred (some []))) {v : Value} (hr : ∀ W', (results fn tmps).run Tryd.prog W' = .ok v W') (h : R (.returned v) (W.putObj D (.deferred none))) :
    LeavesInM FW 0 Tryd.prog fn tmps R [{ target := .collected D, args := #[] }] .returning W := by
  refine ⟨by simp, .inl ⟨_, _, rfl, run_takeDeferred hk, ?_⟩⟩
  exact ⟨_, hr _, h⟩
theorem rW_zero {g : Gr} {f x : Nat} : RW g f (In 0) x ↔ Re g f x := ⟨RW.mono fun _ h => h.elim, RW.mono fun _ h => not_in_zero _ h⟩
def bl (n : Nat) (pre : List Nat) : List Bool := (List.range n).map fun i => decide (i ∈ pre)
theorem bl_snoc (n : Nat) (pre : List Nat) (i : Nat) : bl n (pre ++ [i]) = (bl n pre).set i true := by
  apply List.ext_getElem (by simp [bl])
  intro j h1 h2
  rw [List.getElem_set]
  simp only [bl, List.getElem_map, List.getElem_range, List.mem_append, List.mem_singleton]
  by_cases e : i = j
  · subst e; simp
  · rw [if_neg e]; simp [Ne.symm e]
theorem bl_nil (n : Nat) : bl n [] = List.replicate n false := by
  apply List.ext_getElem (by simp [bl])
  intro j h1 h2
  simp [bl]
theorem bl_reach {g : Gr} {f : Int} (hl : g.length ≤ 64) : bl g.length (bitsL (rN g f 0)) = reachL g f := by
  unfold bl reachL
  apply List.map_congr_left
  intro i hi
  rw [decide_eq_decide, mem_bitsL (Nat.lt_of_lt_of_le (rN_lt g f 0) (Nat.pow_le_pow_right (by decide) hl))]
  show In (rN g f 0) i ↔ _
  unfold rN
  rw [in_setN, decide_eq_true_eq, rW_zero]
  exact ⟨fun h => h.2, fun h => ⟨List.mem_range.1 hi, h⟩⟩
theorem kept_heap {w w' : World} (hk : Kept w w') {b : Nat} {o : Obj} (h : w.heap[b]? = some o) : w'.heap[b]? = some o := (hk.block b (Array.getElem?_eq_some_iff.1 h).1).trans h
structure RcI (w W : World) (b7 : Nat) (v : Value) (n : Nat) (pre : List Nat) : Prop where
  kept : Kept w W
  box : W.heap[b7]? = some (.cells #[v] 27 (0, 0))
  low : w.heap.size ≤ b7
  own : W.ownsRow w.heap.size 4 1 v n ((bl n pre).map vb)
theorem stb_rc (w : World) {B : Nat} (h : w.heap.size ≤ B) (b7 : Nat) (v : Value) (n : Nat) (pre : List Nat) : Stb B (fun W => RcI w W b7 v n pre) := fun S W W' hi hc hs =>
  ⟨stb_kept w h S W W' hi.kept hc hs, stb_cells B _ _ _ _ S W W' hi.box hc hs, hi.low, stb_own B _ _ _ _ _ S W W' hi.own hc hs⟩
set_option maxRecDepth 100000 in
set_option maxHeartbeats 4000000 in
theorem sreach_any (w : World) (v : Value) (g : Gr) (f : Int) (hg : GraphAt w v g) (hl : g.length ≤ 30) (hT : Tab w) :
    Calls Tryd.prog 10 #[v, .int .i64 f] w fun e w' => ∃ u, e = .returned u ∧ Hid (Kept w w' ∧ w'.ownsRow w.heap.size 4 1 u g.length ((reachL g f).map vb)) := by
  obtain ⟨ga, gc, rfl⟩ := hg.form
  have HR := Lib.hid (read_any w _ g hg hl)
  have HT := Lib.hid hT
  have hm := made_bools g.length (by omega)
  clear hg hT
  refine (callsIn_wide (n := 0)).1 (callsIn_of_wp_marks Tryd.func10 rfl trivial ?_ rfl)
  simp only [Tryd.ntmps10, List.size_toArray, List.length_cons, List.length_nil, Nat.reduceAdd, Nat.reduceSub, Array.replicate_succ, Array.replicate_zero, List.push_toArray, List.append_toArray, List.nil_append, List.cons_append]
  refine wpIn_wide.2 ?_
  go_upto_region 5 with (go_at_call 23; refine (HR.out).mono ?_; rintro e w1 ⟨gb, rfl, H1⟩)
  have hst : Hid (RcI w ((w1.alloc (.cells (madeCells #[.bool false] g.length) 4)).alloc (.cells #[.slice (some ⟨w1.heap.size, 0, none⟩) g.length g.length] 27)) (w1.heap.size + 1) (.slice (some ⟨w1.heap.size, 0, none⟩) g.length g.length) g.length []) := by
    have h1 := H1.out.kept
    have h2 := own_made (f := vb) w1 false g.length (by omega) 4
    have h3 := heap_alloc_new (w1.alloc (.cells (madeCells #[.bool false] g.length) 4)) (.cells #[.slice (some ⟨w1.heap.size, 0, none⟩) g.length g.length] 27)
    rw [World.size_alloc] at h3
    refine Lib.hid ⟨(h1.alloc _).alloc _, h3, Nat.le_succ_of_le h1.size, ?_⟩
    rw [bl_nil]
    exact own_kept (own_low h2 h1.size) ((Kept.refl _).alloc _)
  have hgs := Lib.hid ((H1.out.gs.kept ((Kept.refl _).alloc (.cells (madeCells #[.bool false] g.length) 4))).kept ((Kept.refl _).alloc (.cells #[.slice (some ⟨w1.heap.size, 0, none⟩) g.length g.length] 27)))
  clear H1 HR hm
  generalize (w1.alloc (.cells (madeCells #[.bool false] g.length) 4)).alloc (.cells #[.slice (some ⟨w1.heap.size, 0, none⟩) g.length g.length] 27) = w2 at *
  generalize w1.heap.size = bq at *
  generalize hb7 : bq + 1 = b7 at *
  clear hb7
  have HC := Lib.hid (greach_any w2 gb g f 0 hgs.out hl (Nat.two_pow_pos _) (HT.out.kept hst.out.kept))
  obtain ⟨x, hx⟩ : ∃ x, rN g f 0 = x := ⟨_, rfl⟩
  rw [hx] at HC
  have hx2 : x < 4294967296 := by rw [← hx]; exact Nat.lt_of_lt_of_le (rN_lt g f 0) (Nat.pow_le_pow_right (n := 2) (j := 32) (by decide) (by omega))
  have hx3 := rN_lt g f 0
  rw [hx] at hx3
  have HX := Lib.hid hx
  clear hx
  go_wp2_with (go_at_call 24; rw [← setC_zero]; refine (HC.out).mono ?_; rintro e w3 ⟨rfl, H3⟩)
  have h3s : Hid (RcI w w3 b7 (.slice (some ⟨bq, 0, none⟩) g.length g.length) g.length []) := Lib.hid (by
    have h := hst.out
    have k := H3.out
    exact ⟨h.kept.trans k, kept_heap k h.box, h.low, own_kept h.own k⟩)
  clear hst HC H3 hgs
  have hlw := h3s.out.kept.size
  refine wpIn_wide.1 (range_out (x := x) (I := fun pre W => RcI w W b7 (.slice (some ⟨bq, 0, none⟩) g.length g.length) g.length pre) (Ix := fun _ _ _ => False) hx2 rfl
    (Owes.fix (af := ?af) rfl (fun pre => stb_rc w hlw _ _ _ _) (fun _ _ => Stb.pure _ _) (fun _ _ h => HT.out.kept h.kept) ?assign ?body) h3s.out ?done ?stop)
  case assign =>
    intro l i W K hK
    gi_wp2
    exact hK
  case body =>
    rintro l pre i W hB ⟨r, hr⟩ hi hp
    have hin : i < g.length := bitsL_lt hx3 (by obtain ⟨s, hs⟩ := hp; rw [← hs]; simp)
    have hlen : ((bl g.length pre).map vb).length = g.length := by simp [bl]
    obtain ⟨gq, e, h1, h2, h3, c1, f1⟩ := own_at hi.own (j := i) (by rw [hlen]; exact hin)
    injection e with e
    injection e with e
    subst e
    simp only [maxLen] at h2
    have c7 := bx_cell hi.box 0 _ rfl
    have hc2 : ∃ u, W.cell? ⟨bq, i, none⟩ = some u := ⟨_, c1⟩
    obtain ⟨u, hu⟩ : ∃ u, ((bl g.length pre).map vb)[i]'(by rw [hlen]; exact hin) = u := ⟨_, rfl⟩
    rw [hu] at c1
    have HI := Lib.hid hi
    have Hne := Lib.hid (ne_of_ty hi.box (own_ty hi.own rfl).2.2.choose_spec (by decide))
    clear hi hu hlen hc2 hp
    gi_wp2
    have hN : RcI w (W.setCell ⟨bq, i, none⟩ (.bool true)) b7 (.slice (some ⟨bq, 0, none⟩) g.length g.length) g.length (pre ++ [i]) := by
      have h := HI.out
      have hs := own_set h.own (j := i) (.bool true)
      refine ⟨h.kept.setCell h3 _, (heap_setCell_other _ _ _ _ (fun e => Hne.out e)).trans h.box, h.low, ?_⟩
      rw [bl_snoc, List.map_set]
      exact hs
    exact ⟨keeps_chg (chg_set W bq i _) (fun k e _ => by subst e; exact ⟨_, _, _, (own_ty HI.out.own rfl).2.2.choose_spec⟩), trivial, hN⟩
  case done =>
    intro D W hD hi hk
    have c7 := bx_cell hi.box 0 _ rfl
    have HI := Lib.hid hi
    clear hi
    dsimp only
    go_wp2
    refine leaves_one hk (fun W' => results_tmp rfl _ _ _) ⟨_, rfl, Lib.hid ⟨Kept.trans_chg HI.out.kept (chg_putObj W D _) (fun k e => by subst e; omega), ?_⟩⟩
    have h := HI.out.own
    rw [← HX.out, bl_reach (by omega)] at h
    exact (stb_own D _ _ _ _ _).put h (Nat.le_refl _) hk rfl _
  case stop =>
    intro D c pre W _ _ h
    exact h.elim
end Go.Proofs.YtpkebokfbigggaaDoor.Shp
