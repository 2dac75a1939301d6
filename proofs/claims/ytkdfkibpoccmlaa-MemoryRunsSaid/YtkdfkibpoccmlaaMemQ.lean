/-
  Contracts of slices.Delete at []api.Block (up to the end of the list) and of package memory's method Cut: only the first blocks are there now. (Of a memory that there is.)
-/
import Derived.Test.YtkdfkibpoccmlaaMemO
import Derived.Lib.SliceRun
namespace Go.Proofs.Ytkdfkibpoccmlaa.Mem
open Go.RowKit

theorem setCells_heap (b : Nat) (t : TypeId) : ∀ (zs : List Value) (o : Nat) (w : World) (cur : Array Value), w.heap[b]? = some (.cells cur t (0, 0)) →
    Chg (fun k => k = b) w (w.setCells b o zs) ∧ ∃ cur', (w.setCells b o zs).heap[b]? = some (.cells cur' t (0, 0)) ∧ cur'.size = cur.size ∧ cur'.toList.take o = cur.toList.take o
  | [], o, w, cur, h => ⟨Chg.refl _ _, cur, h, rfl, rfl⟩
  | v :: r, o, w, cur, h => by
    obtain ⟨h1, cur', h2, h3, h4⟩ := setCells_heap b t r (o + 1) (w.setCell ⟨b, o, none⟩ v) _ (heap_setCell_same _ _ o _ _ v h)
    refine ⟨(chg_set w b o v).then h1, cur', h2, by simpa using h3, ?_⟩
    have h5 := congrArg (List.take o) h4
    rw [List.take_take, List.take_take, Nat.min_eq_left (by omega), Array.toList_setIfInBounds, List.take_set_of_le (Nat.le_refl _)] at h5
    exact h5

theorem run_clear_blk (w : World) (b o n c : Nat) (hn : 0 < n) (cur : Array Value) (h : w.heap[b]? = some (.cells cur 40 (0, 0))) (hs : o + n * 2 ≤ cur.size) :
    ∃ zs, ∀ ty, (Builtin.clear_ #[27] ty #[.slice (some ⟨b, o, none⟩) n c]).run Try.prog w = .ok (.tuple #[]) (w.setCells b o zs) := by
  have h1 : ∀ j, j < (Builtin.zeroCells #[.int .i64 0, .slice none 0 0] n).toList.length → o + j < cur.size := fun j hj => by
    simp [Builtin.zeroCells] at hj; omega
  have hst := run_storeCells_cells (P := Try.prog) b o (Builtin.zeroCells #[.int .i64 0, .slice none 0 0] n).toList 0 w
    (fun j hj => by have := h1 j hj; simp [World.cell?, h, this]) (fun j hj => by simp [World.frozen?, h])
    (fun v hv => by
      simp [Builtin.zeroCells] at hv
      obtain ⟨i, -, rfl⟩ := hv
      rcases (show i % 2 = 0 ∨ i % 2 = 1 by omega) with e | e <;> simp [e, Value.oneCell'])
  simp only [Nat.add_zero] at hst
  obtain ⟨m, rfl⟩ : ∃ m, n = m + 1 := ⟨n - 1, by omega⟩
  refine ⟨(Builtin.zeroCells #[.int .i64 0, .slice none 0 0] (m + 1)).toList, fun ty => ?_⟩
  simp [Builtin.clear_, run_underlying Try.underlying27, Value.cells, hst]

set_option maxHeartbeats 4000000 in
set_option maxRecDepth 1000000 in
/-- Delete of all from i on. -/
theorem delete_any (w : World) (o n cap i : Nat) (cur : Array Value) (h : w.heap[o]? = some (.cells cur 40 (0, 0))) (hs : cur.size = cap * 2) (hn : n ≤ cap) (hm : cap ≤ maxLen) (hi : i < n) :
    Calls Try.prog 25 #[.slice (some ⟨o, 0, none⟩) n cap, .int .i64 i, .int .i64 n] w fun e w' => e = .returned (.slice (some ⟨o, 0, none⟩) i cap) ∧ Hid (Chg (fun k => k = o) w w' ∧ ∃ cur', w'.heap[o]? = some (.cells cur' 40 (0, 0)) ∧ cur'.size = cap * 2 ∧ cur'.toList.take (i * 2) = cur.toList.take (i * 2)) := by
  obtain ⟨i0, hi0, hz0, hz1, hz2⟩ := info_parts blk_info
  have hm' : cap ≤ 9223372036854775807 := by simp only [maxLen] at hm; omega
  clear hz0 hz2 hm
  obtain ⟨zs, hcl⟩ := run_clear_blk w.drew o (i * 2) (n - i) (cap - i) (by omega) cur h (by omega)
  obtain ⟨A, hA⟩ : ∃ A : Addr, (if cap = n then some (⟨o, 0, none⟩ : Addr) else some ⟨o, n * 2, none⟩) = some A := by split <;> exact ⟨_, rfl⟩
  have HF := Lib.hid (setCells_heap o 40 zs (i * 2) w.drew cur h)
  have hne : i ≠ n := by omega
  have hic : i ≤ cap := by omega
  have H := Lib.hid h
  clear h
  go_enter Try.func25, Try.ntmps25
  go_wp2_with fail
  go_region_law (refine step_append_room rfl (.tmp 22) (.tmp 25) 27 rfl 40 i0 2 Try.underlying27 hi0 hz1 o 0 i cap (by simp [Act.eval, Act.put]) A 0 (cap - n) [] (by simp [Act.eval, Act.put]) rfl (by intro j u hj; simp at hj) (by intro u hu; cases hu) (by omega) (by intro j hj; simp at hj) ?_; rw [World.setCells])
  all_goals
    go_wp2
    go_ret
    obtain ⟨h1, cur', h2, h3, h4⟩ := HF.out
    exact ⟨rfl, Lib.hid ⟨((Chg.refl _ w).drew).then h1, cur', h2, by omega, h4⟩⟩

/-- The list is cut behind its first i blocks: they are as they were. -/
theorem MemAt.cut {B : Nat} {tM : TypeId} {w w1 : World} {p o cap i : Nat} {L : List Bk} (h : MemAt B tM w p (.slice (some ⟨o, 0, none⟩) L.length cap) L) (hM : tM ≠ 40) (hM' : tM ≠ 3) (hi : i < L.length)
    (hc : Chg (fun k => k = o) w w1) {cur cur' : Array Value} (h0 : w.heap[o]? = some (.cells cur 40 (0, 0))) (h1 : w1.heap[o]? = some (.cells cur' 40 (0, 0))) (hs : cur'.size = cap * 2) (ht : cur'.toList.take (i * 2) = cur.toList.take (i * 2)) :
    MemAt B tM (w1.setCell ⟨p, 0, none⟩ (.slice (some ⟨o, 0, none⟩) i cap)) p (.slice (some ⟨o, 0, none⟩) i cap) (L.take i) ∧ Chg (fun k => k = p ∨ k = o) w (w1.setCell ⟨p, 0, none⟩ (.slice (some ⟨o, 0, none⟩) i cap)) := by
  have hpo : p ≠ o := fun e => ne_of_ty h.box h0 hM e
  have hcc : Chg (fun k => k = p ∨ k = o) w (w1.setCell ⟨p, 0, none⟩ (.slice (some ⟨o, 0, none⟩) i cap)) := (hc.mono (fun k _ e => .inr e)).setCell (fun _ => .inl rfl) _
  have hp1 : w1.heap[p]? = some (.cells #[.slice (some ⟨o, 0, none⟩) L.length cap] tM (0, 0)) := hc.heap h.box hpo
  have hlen : (L.take i).length = i := by rw [List.length_take]; omega
  have hb : o ≥ B ∧ cap ≤ maxLen ∧ L.length ≤ cap ∧ cur.toList.take (L.length * 2) = bkCells L := by
    rcases h.row.2 with ⟨e, _⟩ | ⟨g, cp, c, e, g1, g2, g3, g4, g5, g6⟩
    · cases e
    · injection e with e1 e2 e3; injection e1 with e1; injection e1 with e1; subst e1; subst e3
      rw [h0] at g2; injection g2 with g2; injection g2 with g2; subst g2
      exact ⟨g1, g4, g3, g6⟩
  have htk : ∀ (L : List Bk) (i : Nat), bkCells (L.take i) = (bkCells L).take (i * 2) := by
    intro L
    induction L with
    | nil => intro i; simp [bkCells]
    | cons x L ih =>
      intro i
      cases i with
      | zero => simp [bkCells]
      | succ i =>
        have e : ∀ M, bkCells (x :: M) = bkCell x ++ bkCells M := fun M => by simp [bkCells]
        rw [List.take_succ_cons, e, e, ih, List.take_append]
        simp [bkCell, show (i + 1) * 2 - 2 = i * 2 by omega]
        rw [show (i + 1) * 2 = i * 2 + 1 + 1 by omega, List.take_succ_cons, List.take_succ_cons, List.take_nil]; rfl
  refine ⟨⟨h.lo, ?_, ?_, ?_, ?_, ?_⟩, hcc⟩
  · simpa using heap_setCell_same _ _ 0 _ _ (.slice (some ⟨o, 0, none⟩) i cap) hp1
  · rw [hlen]
    refine ⟨by rw [bkCells_length, hlen], .inr ⟨o, cap, cur', rfl, hb.1, ?_, by omega, hb.2.1, hs, ?_⟩⟩
    · rw [Below.heap_setCell _ _ _ _ (fun e => hpo e.symm)]; exact h1
    · rw [ht, htk, ← hb.2.2.2, List.take_take, Nat.min_eq_left (by omega)]
  · intro x hx
    refine (h.inn x (List.mem_of_mem_take hx)).chg hcc fun e => ?_
    obtain ⟨c, g1, -⟩ := (h.inn x (List.mem_of_mem_take hx)).cells
    rcases e with e | e
    · exact ne_of_ty g1 h.box (Ne.symm hM') e
    · exact ne_of_ty g1 h0 (by decide) e
  · rw [List.map_take]; exact h.sep.sublist (List.take_sublist _ _)
  · intro x hx; exact h.pos x (List.mem_of_mem_take hx)

set_option maxHeartbeats 4000000 in
set_option maxRecDepth 100000 in
theorem cut_any {B : Nat} {w : World} {p : Nat} {v : Value} {L : List Bk} (h : MemAt B 51 w p v L) (n : Int) :
    Calls Try.prog 15 #[.pointer (some ⟨p, 0, none⟩), .int .i64 n] w fun e w' => e = .returned (.tuple #[]) ∧ Hid (∃ v', MemAt B 51 w' p v' (L.take n.toNat) ∧ Chg (fun k => k = p ∨ v.ownBlock = some k) w w' ∧ v'.ownBlock = v.ownBlock) := by
  have HL := Lib.hid (len_any h)
  obtain ⟨m, hm, hm0⟩ : ∃ m : Nat, (if n < 0 then 0 else n) = (m : Int) ∧ m = n.toNat := ⟨n.toNat, by split <;> omega, rfl⟩
  have hmm : max n 0 = (m : Int) := by omega
  by_cases hlt : m < L.length
  case neg =>
    have e : L.take n.toNat = L := List.take_of_length_le (by omega)
    rw [e]
    have H := Lib.hid h
    clear h e hm0
    have hlt' : ¬ ((m : Int) < (L.length : Int)) := by omega
    go_enter Try.func15, Try.ntmps15
    go_wp2_with (first | (go_at_call 18; refine HL.out.mono ?_; rintro e w' ⟨rfl, rfl⟩))
    exact bodyPost_end (results_none rfl _ _ _) rfl ⟨rfl, Lib.hid ⟨v, H.out, Chg.refl _ _, rfl⟩⟩
  rcases h.out with ⟨rfl, -⟩ | ⟨o, cap, cur, rfl, ho, hc, hmx, hcell⟩
  · simp at hlt
  have hcs : cur.size = cap * 2 := by
    rcases h.row.2 with ⟨e, _⟩ | ⟨g, cp, c, e, g1, g2, g3, g4, g5, g6⟩
    · cases e
    · injection e with e1 e2 e3; injection e1 with e1; injection e1 with e1; subst e1; subst e3
      rw [ho] at g2; injection g2 with g2; injection g2 with g2; subst g2
      exact g5
  have HD := Lib.hid (fun (W : World) (hW : W.heap[o]? = some (.cells cur 40 (0, 0))) => delete_any W o L.length cap m cur hW hcs hc hmx hlt)
  have H := Lib.hid h
  have Ho := Lib.hid ho
  have c0 := box_cell h.box 0 _ rfl
  have f0 := box_froz h.box 0
  have hpo : p ≠ o := fun e => ne_of_ty h.box ho (by decide) e
  have Hp := Lib.hid h.box
  rw [← hm0]
  clear h ho hcell hcs hm0
  go_enter Try.func15, Try.ntmps15
  go_wp2_with (first | (go_at_call 18; refine HL.out.mono ?_; rintro e w' ⟨rfl, rfl⟩))
  have HL2 := Lib.hid (len_any (H.out.drew))
  go_region_with (first | (go_at_call 18; refine HL2.out.mono ?_; rintro e w' ⟨rfl, rfl⟩) | (go_at_call 25; refine (HD.out _ (by exact Ho.out)).mono ?_; rintro e w1 ⟨rfl, H1⟩; have hb := H1.out.1.heap Hp.out hpo; have c1 := box_cell hb 0 _ rfl; have f1 := box_froz hb 0; clear hb))
  all_goals
    go_wp2
    obtain ⟨h1, cur', h2, h3, h4⟩ := H1.out
    have hf := H.out.cut (by decide) (by decide) hlt (((Chg.refl _ w).drew).then h1) Ho.out h2 h3 h4
    refine bodyPost_end (results_none rfl _ _ _) rfl ⟨rfl, Lib.hid ⟨_, hf.1, hf.2.mono fun k _ hk => ?_, rfl⟩⟩
    rcases hk with hk | hk
    · exact .inl hk
    · exact .inr (by simp [Value.ownBlock, hk])
end Go.Proofs.Ytkdfkibpoccmlaa.Mem
