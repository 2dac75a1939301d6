/-
  Contract of the document's Add for package memory. (Of a memory that there is.)
-/
import Derived.Test.YthjnkjekidagiaaMemD
namespace Go.Proofs.Ythjnkjekidagiaa.Mem
open Go.RowKit

set_option maxRecDepth 100000 in
set_option maxHeartbeats 4000000 in
theorem radd_any {B : Nat} {w : World} {p : Nat} {v : Value} {L : List Bk} (h : MemAt B 55 w p v L) (hl : L.length ≤ 100000) (hB : B ≤ w.heap.size) (t size : Int) (hs : -9223372036854775808 ≤ size ∧ size ≤ 9223372036854775807) :
    Calls Try.prog 19 #[.pointer (some ⟨p, 0, none⟩), .int .i64 t, .int .i64 size] w fun e w' => e = .returned (.int .i64 L.length) ∧ Hid (∃ v' g, w.heap.size ≤ g ∧ MemAt B 55 w' p v' (L ++ [⟨g, (noughts size).length, t, noughts size⟩]) ∧ Chg (fun k => k = p ∨ v.ownBlock = some k) w w' ∧ (v'.ownBlock = v.ownBlock ∨ ∃ o, v'.ownBlock = some o ∧ w.heap.size ≤ o)) := by
  have c0 := box_cell h.box 0 v rfl
  have f0 := box_froz h.box 0
  obtain ⟨nv, hn0, hn1, hn2⟩ : ∃ nv : Int, min (max size 1) 16 = nv ∧ 1 ≤ nv ∧ nv ≤ 16 := ⟨_, rfl, by omega, by omega⟩
  obtain ⟨i0, hi0, hz0, hz1, hz2⟩ := info_parts blk_info
  have Hi := Lib.hid (And.intro hi0 (And.intro hz0 (And.intro hz1 hz2)))
  clear hi0 hz0 hz1 hz2
  have HM := Lib.hid h
  clear h
  have HN : Hid (noughts size = List.replicate nv.toNat 0) := Lib.hid (by unfold noughts; rw [hn0])
  have hmk := made_run nv ⟨hn1, hn2⟩
  have hps := box_lt HM.out.box
  have Hqn : Hid (some p ≠ v.ownBlock) := Lib.hid fun e => by
    obtain ⟨c, hc⟩ := own_ty HM.out.row e.symm
    exact ne_of_ty HM.out.box hc (by decide) rfl
  obtain ⟨k, rfl⟩ : ∃ k : Nat, nv = k := ⟨nv.toNat, by omega⟩
  obtain ⟨m1, hm1⟩ : ∃ m1 : Int, (if 16 < size then 16 else size) = m1 := ⟨_, rfl⟩
  have hm2 : (if 1 < m1 then m1 else 1) = (k : Int) := by
    rw [← hm1]
    by_cases q : 16 < size
    · rw [if_pos q, if_pos (by omega)]; omega
    · rw [if_neg q]
      by_cases q2 : 1 < size
      · rw [if_pos q2]; omega
      · rw [if_neg q2]; omega
  have hn2' : 1 ≤ k ∧ k ≤ 16 := by omega
  clear hn0
  replace hmk : ∀ w : World, (Instr.makeSlice 22 (.int .i64 (k : Int)) (.int .i64 (k : Int))).run Try.prog w = .ok (.slice (some ⟨w.heap.size, 0, none⟩) k k) (w.alloc (.cells (madeCells #[.int .i64 0] k) 3)) := hmk
  have Ho2 := Lib.hid (((show w.drew.ownsRow B 62 2 v L.length (bkCells L) from HM.out.row).alloc (.cells (madeCells #[.int .i64 0] k) 3)).alloc (.cells #[.int .i64 t, .slice (some ⟨w.heap.size, 0, none⟩) k k] 62))
  have Hnb : Hid (((w.drew.alloc (.cells (madeCells #[.int .i64 0] k) 3)).alloc (.cells #[.int .i64 t, .slice (some ⟨w.heap.size, 0, none⟩) k k] 62)).heap[w.heap.size + 1]? = some (.cells #[.int .i64 t, .slice (some ⟨w.heap.size, 0, none⟩) k k] 62 (0, 0))) := Lib.hid (by
    have h := heap_alloc_new (w.drew.alloc (.cells (madeCells #[.int .i64 0] k) 3)) (.cells #[.int .i64 t, .slice (some ⟨w.heap.size, 0, none⟩) k k] 62)
    simpa using h)
  go_enter Try.func19, Try.ntmps19
  go_wp2
  go_region_law (refine step_append_lies _ rfl (.tmp 11) (.tmp 18) 53 rfl B 62 i0 _ 2 32 Try.underlying53 Hi.out.1 Hi.out.2.1 Hi.out.2.2.1 Hi.out.2.2.2 rfl (by omega) v L.length (bkCells L) rfl Ho2.out ⟨w.heap.size + 1, 0, none⟩ 1 1 [.int .i64 t, .slice (some ⟨w.heap.size, 0, none⟩) k k] rfl rfl (World.news_of_block (cs := #[.int .i64 t, .slice (some ⟨w.heap.size, 0, none⟩) k k]) Hnb.out) (by simp [Value.oneCell']) (by omega) (by simp only [maxLen]; omega) (by omega) (by simp; omega) (w.heap.size + 2) (by simp) ?_; intro g cap w1 hown1 hgrow hat hlt; have Hown1 := Lib.hid hown1; have Hgrow := Lib.hid hgrow; have Hat := Lib.hid hat; have hq1 := (hgrow.block p (by simp; omega) Hqn.out).trans ((Below.heap_alloc _ _ p (by simp; omega)).trans ((Below.heap_alloc _ _ p (by simpa using hps)).trans HM.out.box)); have c1 := box_cell hq1 0 v rfl; have f1 := box_froz hq1 0; have Hq1 := Lib.hid hq1; clear hown1 hgrow hat hq1)
  all_goals
    go_wp2
    go_ret
    have hf := add_fin HM.out (by decide) (by decide) t k hn2' Hown1.out Hgrow.out Hat.out
    exact ⟨rfl, Lib.hid ⟨_, _, Nat.le_refl _, by rw [HN.out]; simpa using hf.1, hf.2.1, hf.2.2⟩⟩
end Go.Proofs.Ythjnkjekidagiaa.Mem
