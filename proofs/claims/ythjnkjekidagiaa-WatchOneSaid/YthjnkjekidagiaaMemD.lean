/-
  Contract of package memory's method Add: a block of noughts is put behind the list. (Fitted to the struct's one field.)
-/
import Derived.Test.YthjnkjekidagiaaMemC
namespace Go.Proofs.Ythjnkjekidagiaa.Mem
open Go.RowKit

def noughts (size : Int) : List Int := List.replicate (min (max size 1) 16).toNat 0
theorem blk_info : (Try.prog.info? 62).map (fun i => (i.zero, i.size, i.bytes)) = some (some (.agg #[.int .i64 0, .slice none 0 0]), 2, 32) := by kernel_rfl

theorem made_take (k : Nat) : (madeCells #[.int .i64 0] k).toList.take k = ints (List.replicate k 0) := by
  have h : (madeCells #[.int .i64 0] k).toList = ints (List.replicate k 0) := by
    apply List.ext_getElem
    · simp [madeCells, ints]
    · intro i h1 h2
      simp [madeCells, ints, Nat.mod_one]
  rw [h, List.take_of_length_le (by simp [ints])]
theorem add_fin {B : Nat} {tM : TypeId} {w w1 : World} {p : Nat} {v : Value} {L : List Bk} {g cap : Nat} (h : MemAt B tM w p v L) (hM : tM ≠ 62) (hM' : tM ≠ 3) (t : Int) (k : Nat) (hk : 1 ≤ k ∧ k ≤ 16) {e : Array Value} {te : TypeId}
    (hown : w1.ownsRow B 62 2 (.slice (some ⟨g, 0, none⟩) (L.length + 1) cap) (L.length + 1) (bkCells L ++ [.int .i64 t, .slice (some ⟨w.heap.size, 0, none⟩) k k]))
    (hgrow : ((w.alloc (.cells (madeCells #[.int .i64 0] k) 3)).alloc (.cells e te)).drew.grownBy w1 v.ownBlock) (hat : v.ownBlock = some g ∨ g = w.heap.size + 2) :
    MemAt B tM (w1.setCell ⟨p, 0, none⟩ (.slice (some ⟨g, 0, none⟩) (L.length + 1) cap)) p (.slice (some ⟨g, 0, none⟩) (L.length + 1) cap) (L ++ [⟨w.heap.size, k, t, List.replicate k 0⟩]) ∧
      Chg (fun j => j = p ∨ v.ownBlock = some j) w (w1.setCell ⟨p, 0, none⟩ (.slice (some ⟨g, 0, none⟩) (L.length + 1) cap)) ∧
      ((.slice (some ⟨g, 0, none⟩) (L.length + 1) cap : Value).ownBlock = v.ownBlock ∨ ∃ o, (.slice (some ⟨g, 0, none⟩) (L.length + 1) cap : Value).ownBlock = some o ∧ w.heap.size ≤ o) := by
  have hps := box_lt h.box
  have hqn : some p ≠ v.ownBlock := fun e => by
    obtain ⟨c, hc⟩ := own_ty h.row e.symm
    exact ne_of_ty h.box hc hM rfl
  have hc : Chg (fun j => j = p ∨ v.ownBlock = some j) w (w1.setCell ⟨p, 0, none⟩ (.slice (some ⟨g, 0, none⟩) (L.length + 1) cap)) :=
    (((((Chg.refl _ w).alloc _).alloc _).drew).grown hgrow (fun j _ e => .inr e)).setCell (fun _ => .inl rfl) _
  have hp1 : w1.heap[p]? = some (.cells #[v] tM (0, 0)) := (hgrow.block p (by simp; omega) hqn).trans ((Below.heap_alloc _ _ p (by simp; omega)).trans ((Below.heap_alloc _ _ p (by simpa using hps)).trans h.box))
  have hgp : g ≠ p := fun e => by
    obtain ⟨c, hc⟩ := own_ty hown (g := g) rfl
    exact ne_of_ty hc hp1 (Ne.symm hM) e
  have hnew : (w1.setCell ⟨p, 0, none⟩ (.slice (some ⟨g, 0, none⟩) (L.length + 1) cap)).heap[w.heap.size]? = some (.cells (madeCells #[.int .i64 0] k) 3 (0, 0)) := by
    rw [Below.heap_setCell _ _ _ _ (show w.heap.size ≠ p by omega), hgrow.block _ (by simp; omega) (fun e => by
      obtain ⟨c, hc⟩ := own_ty h.row e.symm
      have := box_lt hc; omega)]
    exact (Below.heap_alloc (w.alloc (.cells (madeCells #[.int .i64 0] k) 3)) _ _ (by simp)).trans (heap_alloc_new w (.cells (madeCells #[.int .i64 0] k) 3))
  refine ⟨⟨h.lo, ?_, ?_, ?_, ?_, ?_⟩, hc, ?_⟩
  · simpa using heap_setCell_same _ _ 0 _ _ (.slice (some ⟨g, 0, none⟩) (L.length + 1) cap) hp1
  · rw [bkCells_snoc, List.length_append]
    have := own_chg hown (chg_set w1 p 0 (.slice (some ⟨g, 0, none⟩) (L.length + 1) cap)) (fun j hj e => hgp (by simp [Value.ownBlock] at hj; omega))
    simpa [bkCell, bkVal] using this
  · intro x hx
    rw [List.mem_append] at hx
    rcases hx with hx | hx
    · refine (h.inn x hx).chg hc fun e => ?_
      obtain ⟨cur, g1, -⟩ := (h.inn x hx).cells
      rcases e with e | e
      · exact ne_of_ty g1 h.box (Ne.symm hM') e
      · obtain ⟨c, hc'⟩ := own_ty h.row e
        exact ne_of_ty g1 hc' (by decide) rfl
    · simp only [List.mem_singleton] at hx; subst hx
      refine ⟨by simp [ints], .inr ⟨w.heap.size, k, _, by simp [bkVal], by have := h.lo; omega, hnew, by simp, ?_, by simp [size_madeCells], ?_⟩⟩
      · simp only [maxLen]; omega
      · simpa using made_take k
  · rw [List.map_append, List.nodup_append]
    refine ⟨h.sep, by simp, ?_⟩
    intro a ha b hb
    simp only [List.mem_map] at ha
    obtain ⟨x, hx, rfl⟩ := ha
    simp only [List.map_cons, List.map_nil, List.mem_singleton] at hb
    subst hb
    obtain ⟨cur, g1, -⟩ := (h.inn x hx).cells
    have := box_lt g1
    omega
  · intro x hx
    rw [List.mem_append] at hx
    rcases hx with hx | hx
    · exact h.pos x hx
    · simp only [List.mem_singleton] at hx; subst hx; simp; omega
  · rcases hat with e | e
    · exact .inl e.symm
    · exact .inr ⟨g, rfl, by omega⟩
theorem int_info : (Try.prog.info? 3).map (fun i => (i.zero, i.size, i.bytes)) = some (some (.int .i64 0), 1, 8) := by kernel_rfl
theorem made_run (c : Int) (h : 1 ≤ c ∧ c ≤ 16) : ∀ w : World, (Instr.makeSlice 22 (.int .i64 c) (.int .i64 c)).run Try.prog w = .ok (.slice (some ⟨w.heap.size, 0, none⟩) c.toNat c.toNat) (w.alloc (.cells (madeCells #[.int .i64 0] c.toNat) 3)) := by
  intro w
  obtain ⟨i0, hi0, hz0, hz1, hz2⟩ := info_parts int_info
  have := run_make (P := Try.prog) w 22 3 i0 _ Try.underlying22 hi0 hz0 .i64 .i64 c c (by omega) (by omega) (by rw [hz2]; omega) (by omega)
  rw [hz1, Nat.mul_one] at this
  exact this

set_option maxRecDepth 100000 in
set_option maxHeartbeats 4000000 in
theorem add_any {B : Nat} {w : World} {p : Nat} {v : Value} {L : List Bk} (h : MemAt B 64 w p v L) (hl : L.length ≤ 100000) (hB : B ≤ w.heap.size) (t size : Int) (hs : -9223372036854775808 ≤ size ∧ size ≤ 9223372036854775807) :
    Calls Try.prog 13 #[.pointer (some ⟨p, 0, none⟩), .int .i64 t, .int .i64 size] w fun e w' => e = .returned (.int .i64 L.length) ∧ Hid (∃ v' g, w.heap.size ≤ g ∧ MemAt B 64 w' p v' (L ++ [⟨g, (noughts size).length, t, noughts size⟩]) ∧ Chg (fun k => k = p ∨ v.ownBlock = some k) w w' ∧ (v'.ownBlock = v.ownBlock ∨ ∃ o, v'.ownBlock = some o ∧ w.heap.size ≤ o)) := by
  have c0 := box_cell h.box 0 v rfl
  have f0 := box_froz h.box 0
  obtain ⟨nv, hn0, hn1, hn2⟩ : ∃ nv : Int, min (max size 1) 16 = nv ∧ 1 ≤ nv ∧ nv ≤ 16 := ⟨_, rfl, by omega, by omega⟩
  obtain ⟨i0, hi0, hz0, hz1, hz2⟩ := info_parts blk_info
  have Hi := Lib.hid (And.intro hi0 (And.intro hz0 (And.intro hz1 hz2)))
  clear hi0 hz0 hz1 hz2
  have HM := Lib.hid h
  clear h
  have HN : Hid (noughts size = List.replicate nv.toNat 0) := Lib.hid (by unfold noughts; rw [hn0])
  have hcase : (size < 1 ∧ nv = 1) ∨ (1 ≤ size ∧ size ≤ 16 ∧ nv = size) ∨ (16 < size ∧ nv = 16) := by omega
  have hmk := made_run nv ⟨hn1, hn2⟩
  clear hn0
  have hps := box_lt HM.out.box
  have Hqn : Hid (some p ≠ v.ownBlock) := Lib.hid fun e => by
    obtain ⟨c, hc⟩ := own_ty HM.out.row e.symm
    exact ne_of_ty HM.out.box hc (by decide) rfl
  obtain ⟨k, rfl⟩ : ∃ k : Nat, nv = k := ⟨nv.toNat, by omega⟩
  obtain ⟨m1, hm1⟩ : ∃ m1 : Int, (if size < 1 then 1 else size) = m1 := ⟨_, rfl⟩
  have hm2 : (if 16 < m1 then 16 else m1) = (k : Int) := by
    rw [← hm1]
    by_cases q : size < 1
    · rw [if_pos q, if_neg (by omega)]; omega
    · rw [if_neg q]
      by_cases q2 : 16 < size
      · rw [if_pos q2]; omega
      · rw [if_neg q2]; omega
  have hn2' : 1 ≤ k ∧ k ≤ 16 := by omega
  clear hcase
  replace hmk : ∀ w : World, (Instr.makeSlice 22 (.int .i64 (k : Int)) (.int .i64 (k : Int))).run Try.prog w = .ok (.slice (some ⟨w.heap.size, 0, none⟩) k k) (w.alloc (.cells (madeCells #[.int .i64 0] k) 3)) := hmk
  have Ho2 := Lib.hid (((show w.drew.ownsRow B 62 2 v L.length (bkCells L) from HM.out.row).alloc (.cells (madeCells #[.int .i64 0] k) 3)).alloc (.cells #[.int .i64 t, .slice (some ⟨w.heap.size, 0, none⟩) k k] 62))
  have Hnb : Hid (((w.drew.alloc (.cells (madeCells #[.int .i64 0] k) 3)).alloc (.cells #[.int .i64 t, .slice (some ⟨w.heap.size, 0, none⟩) k k] 62)).heap[w.heap.size + 1]? = some (.cells #[.int .i64 t, .slice (some ⟨w.heap.size, 0, none⟩) k k] 62 (0, 0))) := Lib.hid (by
    have h := heap_alloc_new (w.drew.alloc (.cells (madeCells #[.int .i64 0] k) 3)) (.cells #[.int .i64 t, .slice (some ⟨w.heap.size, 0, none⟩) k k] 62)
    simpa using h)
  go_enter Try.func13, Try.ntmps13
  go_wp2
  go_region_law (refine step_append_lies _ rfl (.tmp 16) (.tmp 21) 53 rfl B 62 i0 _ 2 32 Try.underlying53 Hi.out.1 Hi.out.2.1 Hi.out.2.2.1 Hi.out.2.2.2 rfl (by omega) v L.length (bkCells L) rfl Ho2.out ⟨w.heap.size + 1, 0, none⟩ 1 1 [.int .i64 t, .slice (some ⟨w.heap.size, 0, none⟩) k k] rfl rfl (World.news_of_block (cs := #[.int .i64 t, .slice (some ⟨w.heap.size, 0, none⟩) k k]) Hnb.out) (by simp [Value.oneCell']) (by omega) (by simp only [maxLen]; omega) (by omega) (by simp; omega) (w.heap.size + 2) (by simp) ?_; intro g cap w1 hown1 hgrow hat hlt; have Hown1 := Lib.hid hown1; have Hgrow := Lib.hid hgrow; have Hat := Lib.hid hat; have hq1 := (hgrow.block p (by simp; omega) Hqn.out).trans ((Below.heap_alloc _ _ p (by simp; omega)).trans ((Below.heap_alloc _ _ p (by simpa using hps)).trans HM.out.box)); have c1 := box_cell hq1 0 v rfl; have f1 := box_froz hq1 0; have Hq1 := Lib.hid hq1; clear hown1 hgrow hat hq1)
  all_goals
    have hf := add_fin HM.out (by decide) (by decide) t k hn2' Hown1.out Hgrow.out Hat.out
    have HL := len_any hf.1
    have Hf := Lib.hid hf
    clear hf
    go_wp2_with (first | (go_at_call 21; refine HL.mono ?_; rintro e w' ⟨rfl, rfl⟩))
    go_ret
    have hf := Hf.out
    exact ⟨ret_int (by simp), Lib.hid ⟨_, _, Nat.le_refl _, by rw [HN.out]; simpa using hf.1, hf.2.1, hf.2.2⟩⟩
end Go.Proofs.Ythjnkjekidagiaa.Mem
