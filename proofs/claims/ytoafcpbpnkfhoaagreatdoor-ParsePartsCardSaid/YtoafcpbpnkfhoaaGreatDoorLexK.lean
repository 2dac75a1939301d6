/-
  Contracts of package lex's reader and of the closure that it makes: each call hands out one token, or a fault, and moves the place on.
-/
import Derived.Test.YtoafcpbpnkfhoaaGreatDoorLexJ
import Derived.RegionTactic
import Derived.BigRegion
import Derived.Deep.RegionWith
import Derived.Deep.DeepCutAuto
import Derived.Maps.AppendAt
import Derived.Deep.AppendLies
import Derived.OwnWalk
import Derived.Deep.RegionHeld
namespace Go.Proofs.YtoafcpbpnkfhoaaGreatDoor.Lex
open Go.RowKit

theorem reader_any (s : ByteArray) (w : World) : Calls Tryz.prog 12 #[.string s] w fun e w' => e = .returned (.func (.func 18) #[] #[.pointer (some ⟨w.heap.size + 1, 0, none⟩), .pointer (some ⟨w.heap.size, 0, none⟩)]) ∧ w' = (w.alloc (.cells #[.string s] 9)).alloc (.cells #[.int .i64 0] 3) := by
  go_enter Tryz.func12, Tryz.ntmps12
  go_wp2
  go_ret
  exact ⟨rfl, rfl⟩

/-- Nothing but block A has changed; it holds the number v. -/
structure Moved (A : Nat) (v : Int) (w w' : World) : Prop where
  grown : w.grownBy w' (some A)
  cell : w'.heap[A]? = some (.cells #[.int .i64 v] 3 (0, 0))
theorem blk_cell {w : World} {A : Nat} {v : Value} {t : TypeId} (h : w.heap[A]? = some (.cells #[v] t (0, 0))) : w.cell? ⟨A, 0, none⟩ = some v ∧ w.frozen? ⟨A, 0, none⟩ = false ∧ A < w.heap.size := by
  refine ⟨by simp [World.cell?, h], by simp [World.frozen?, h], (Array.getElem?_eq_some_iff.1 h).1⟩
theorem grown_drewN (w : World) (n : Nat) (row : Option Nat) : w.grownBy (w.drewN n) row := ⟨rfl, rfl, rfl, Nat.le_refl _, fun _ _ _ => rfl⟩
theorem grown_drew (w : World) (row : Option Nat) : w.grownBy w.drew row := ⟨rfl, rfl, rfl, Nat.le_refl _, fun _ _ _ => rfl⟩
theorem grown_setCell (w : World) (A : Nat) (u : Value) : w.grownBy (w.setCell ⟨A, 0, none⟩ u) (some A) :=
  ⟨rfl, rfl, rfl, by simp, fun k _ hk => Below.heap_setCell w ⟨A, 0, none⟩ u k (fun e => hk (by rw [e]))⟩
theorem Moved.set {A : Nat} {v : Int} {w w' : World} (h : w.grownBy w' (some A)) {v0 : Int} (hc : w'.heap[A]? = some (.cells #[.int .i64 v0] 3 (0, 0))) : Moved A v w (w'.setCell ⟨A, 0, none⟩ (.int .i64 v)) :=
  ⟨h.trans (grown_setCell w' A _), by simp [World.setCell, Array.getElem?_modify, hc]⟩


def zeroTok : Obj := .cells #[.int .i64 0, .string ⟨#[]⟩, .int .i64 0] 62 (0, 0)
theorem first_rel {w : World} {A k g : Nat} (hA : w.heap[A]? = some (.cells #[.int .i64 k] 3 (0, 0))) (hg : k + g ≤ 100000) :
    Moved A (k + g : Nat) w ((w.setCell ⟨A, 0, none⟩ (.int .i64 (IntKind.i64.wrap ((k : Int) + (g : Int))))).alloc zeroTok).drew ∧ ((w.setCell ⟨A, 0, none⟩ (.int .i64 (IntKind.i64.wrap ((k : Int) + (g : Int))))).alloc zeroTok).drew.heap[w.heap.size]? = some zeroTok := by
  have hw : IntKind.i64.wrap ((k : Int) + (g : Int)) = ((k + g : Nat) : Int) := by rw [IntWalk.i64_in _ (by omega)]; omega
  rw [hw]
  have hs : (w.setCell ⟨A, 0, none⟩ (.int .i64 ((k + g : Nat) : Int))).heap.size = w.heap.size := by simp
  have hm : Moved A (k + g : Nat) w (w.setCell ⟨A, 0, none⟩ (.int .i64 ((k + g : Nat) : Int))) := Moved.set (World.grownBy.refl _ _) hA
  have hlt := (Array.getElem?_eq_some_iff.1 hA).1
  refine ⟨⟨(hm.grown.trans (World.grownBy_alloc _ _ _)).trans (grown_drew _ _), ?_⟩, ?_⟩
  · show (World.alloc _ _).heap[A]? = _
    rw [Below.heap_alloc _ _ A (by rw [hs]; exact hlt)]; exact hm.cell
  · show (World.alloc _ _).heap[w.heap.size]? = _
    rw [← hs]; exact heap_alloc_new _ _


theorem Laid.grown {w w' : World} {pL pW : Addr} {A : Nat} (h : Laid w pL pW) (hg : w.grownBy w' (some A)) (h4 : 0 < A ∧ 1 < A ∧ 2 < A) (h1 : pL.block ≠ A) (h2 : pW.block ≠ A) : Laid w' pL pW := by
  have hz := h.size
  refine ⟨?_, ?_, ?_, h.ne, ?_, ?_, by have := hg.size; omega⟩
  · exact hg.cell h.long (fun e => by injection e with e; simp at e; omega)
  · exact hg.cell h.word (fun e => by injection e with e; simp at e; omega)
  · exact hg.cell h.typ (fun e => by injection e with e; simp at e; omega)
  · obtain ⟨c, t, e⟩ := h.rowL
    exact ⟨c, t, (hg.block _ (Array.getElem?_eq_some_iff.1 e).1 (fun e => h1 (by injection e))).trans e⟩
  · obtain ⟨c, t, e⟩ := h.rowW
    exact ⟨c, t, (hg.block _ (Array.getElem?_eq_some_iff.1 e).1 (fun e => h2 (by injection e))).trans e⟩
theorem gap_b (s : ByteArray) (w : World) (hl : s.size ≤ 4611686018427387904) (g : Nat) (h : gapG false (lst s) = g) : Calls Tryz.prog 19 #[.string s] w fun e w' => e = .returned (.int .i64 g) ∧ w = w' :=
  (gap_any s w hl).mono fun _ _ ⟨h1, h2⟩ => ⟨by rw [h1, h], h2⟩
theorem scan_bad (s : ByteArray) (w : World) (pL pW : Addr) (hL : Laid w pL pW) (hl : s.size ≤ 4611686018427387904) (b : Bool) (h : scanF (lst s) = .bad b) :
    Calls Tryz.prog 20 #[.string s] w fun e w' => e = .returned (.tuple #[.int .i64 0, .int .i64 0, .iface 155 (.pointer (some (perr pL pW b)))]) ∧ ∃ n, w' = w.drewN n :=
  (scan_any s w pL pW hL hl).mono fun _ _ ⟨h1, h2⟩ => ⟨by rw [h1, h]; rfl, h2⟩
theorem scan_tok (s : ByteArray) (w : World) (pL pW : Addr) (hL : Laid w pL pW) (hl : s.size ≤ 4611686018427387904) (k n : Nat) (h : scanF (lst s) = .tok k n) :
    Calls Tryz.prog 20 #[.string s] w fun e w' => e = .returned (.tuple #[.int .i64 k, .int .i64 n, .nilIface]) ∧ ∃ n, w' = w.drewN n :=
  (scan_any s w pL pW hL hl).mono fun _ _ ⟨h1, h2⟩ => ⟨by rw [h1, h]; rfl, h2⟩

theorem Moved.setNew {A : Nat} {v : Int} {w w' : World} (h : Moved A v w w') (hA : A < w.heap.size) {p : Addr} (hp : w.heap.size ≤ p.block) (u : Value) : Moved A v w (w'.setCell p u) :=
  ⟨⟨h.grown.os, h.grown.tape, h.grown.output, by simp; exact h.grown.size, fun k hk hn => (Below.heap_setCell w' p u k (by omega)).trans (h.grown.block k hk hn)⟩, (Below.heap_setCell w' p u A (by omega)).trans h.cell⟩
theorem Moved.drewN {A : Nat} {v : Int} {w w' : World} (h : Moved A v w w') (n : Nat) : Moved A v w (w'.drewN n) := ⟨h.grown.trans (grown_drewN _ _ _), h.cell⟩
theorem Moved.drew {A : Nat} {v : Int} {w w' : World} (h : Moved A v w w') : Moved A v w w'.drew := ⟨h.grown.trans (grown_drew _ _), h.cell⟩
theorem Moved.alloc {A : Nat} {v : Int} {w w' : World} (h : Moved A v w w') (o : Obj) : Moved A v w (w'.alloc o) :=
  ⟨h.grown.trans (World.grownBy_alloc _ _ _), (Below.heap_alloc w' o A (Array.getElem?_eq_some_iff.1 h.cell).1).trans h.cell⟩

set_option maxHeartbeats 2000000 in
theorem next_bad (s : ByteArray) (w : World) (A B k g : Nat) (pL pW : Addr) (hL : Laid w pL pW) (hs : s.size ≤ 8192) (hk : k ≤ s.size)
   (hA : w.heap[A]? = some (.cells #[.int .i64 k] 3 (0, 0))) (hB : w.heap[B]? = some (.cells #[.string s] 9 (0, 0))) (hAB : A ≠ B) (hA4 : 0 < A ∧ 1 < A ∧ 2 < A) (hpL : pL.block ≠ A) (hpW : pW.block ≠ A) (b : Bool)
   (hg : gapG false ((lst s).drop k) = g) (hsc : scanF ((lst s).drop (k + g)) = .bad b) :
   Calls Tryz.prog 18 #[.pointer (some ⟨A, 0, none⟩), .pointer (some ⟨B, 0, none⟩)] w fun e w' => e = .returned (.tuple #[.agg #[.int .i64 0, .string ⟨#[]⟩, .int .i64 0], .iface 75 (.agg #[.int .i64 (k + g : Nat), errV pL pW b])]) ∧ Moved A (k + g : Nat) w w' := by
  have hgl : k + g ≤ s.size := by
    have := gap_le false ((lst s).drop k); rw [List.length_drop, lst_length, hg] at this; omega
  have HA := Lib.hid hA
  have HB := Lib.hid hB
  obtain ⟨a1, a2, a3⟩ := blk_cell hA
  obtain ⟨b1, b2, b3⟩ := blk_cell hB
  clear hA hB
  rw [← lst_from] at hsc hg
  have Hsc := Lib.hid hsc
  have Hg := Lib.hid hg
  clear hsc hg
  go_enter Tryz.func18, Tryz.ntmps18
  go_upto_region 1 with fail
  go_cut [4] (fun s4 wx => Moved A (k + g : Nat) w wx ∧ wx.heap[w.heap.size]? = some zeroTok)
  case first =>
    go_region_with (go_at_call 19; refine (gap_b _ _ (by simp; omega) _ Hg.out).mono ?_; rintro e w' ⟨rfl, rfl⟩)
    all_goals
      go_wp2_with fail
      go_meet
      exact first_rel HA.out (by omega)
  case rest =>
    obtain ⟨hm, hz⟩ := hcut
    have hL2 := hL.grown hm.grown hA4 hpL hpW
    have HB2 : Hid (wc.heap[B]? = some (.cells #[.string s] 9 (0, 0))) := Lib.hid ((hm.grown.block B b3 (fun e => hAB (by injection e with e; exact e.symm))).trans HB.out)
    obtain ⟨c1, c2, c3⟩ := blk_cell HB2.out
    obtain ⟨d1, d2, d3⟩ := blk_cell hm.cell
    have z0 : wc.cell? ⟨w.heap.size, 0, none⟩ = some (.int .i64 0) := by simp [World.cell?, hz, zeroTok]
    have z1 : wc.cell? ⟨w.heap.size, 1, none⟩ = some (.string ⟨#[]⟩) := by simp [World.cell?, hz, zeroTok]
    have z2 : wc.cell? ⟨w.heap.size, 2, none⟩ = some (.int .i64 0) := by simp [World.cell?, hz, zeroTok]
    have zf : ∀ i, wc.frozen? ⟨w.heap.size, i, none⟩ = false := fun i => by simp [World.frozen?, hz, zeroTok]
    have zf0 := zf 0
    have zf1 := zf 1
    have zf2 := zf 2
    have Hm := Lib.hid hm
    have Hz := Lib.hid hz
    clear zf hm hz
    go_wp2_with (go_at_call 20; refine (scan_bad _ _ pL pW hL2 (by simp; omega) _ Hsc.out).mono ?_; rintro e w' ⟨rfl, nd, rfl⟩)
    go_region
    go_wp2_with fail
    refine bodyPost_ret (v := .tuple #[.agg #[.int .i64 0, .string ⟨#[]⟩, .int .i64 0], .iface 75 (.agg #[.int .i64 ((k : Int) + (g : Int)), .iface 155 (.pointer (some (perr pL pW b)))])]) ?_ rfl ⟨?_, ?_⟩
    · simp [results, Tryz.results18, go_sem, z0, z1, z2]
    · rw [show ((k : Int) + (g : Int)) = ((k + g : Nat) : Int) by omega]; rfl
    · exact (((Hm.out.drewN _).setNew a3 (Nat.le_refl _) _).setNew a3 (Nat.le_refl _) _).setNew a3 (Nat.le_refl _) _
theorem three_cells {w : World} {A R : Nat} {x0 x1 x2 : Value} (hA : ¬ A = R) (z0 : w.cell? ⟨R, 0, none⟩ = some x0) (z1 : w.cell? ⟨R, 1, none⟩ = some x1) (z2 : w.cell? ⟨R, 2, none⟩ = some x2) (hR : R < w.heap.size) (a u v t : Value) (o : Obj) :
    (((((w.setCell ⟨A, 0, none⟩ a).setCell ⟨R, 0, none⟩ u).setCell ⟨R, 1, none⟩ v).setCell ⟨R, 2, none⟩ t).alloc o).drew.cell? ⟨R, 0, none⟩ = some u ∧
    (((((w.setCell ⟨A, 0, none⟩ a).setCell ⟨R, 0, none⟩ u).setCell ⟨R, 1, none⟩ v).setCell ⟨R, 2, none⟩ t).alloc o).drew.cell? ⟨R, 1, none⟩ = some v ∧
    (((((w.setCell ⟨A, 0, none⟩ a).setCell ⟨R, 0, none⟩ u).setCell ⟨R, 1, none⟩ v).setCell ⟨R, 2, none⟩ t).alloc o).drew.cell? ⟨R, 2, none⟩ = some t := by
  have n0 : ∀ i, (⟨A, 0, none⟩ : Addr) ≠ ⟨R, i, none⟩ := fun i e => hA (congrArg Addr.block e)
  have nn : ∀ i j : Nat, i ≠ j → (⟨R, i, none⟩ : Addr) ≠ ⟨R, j, none⟩ := fun i j h e => h (congrArg Addr.off e)
  have y0 := (World.cell?_setCell_other w ⟨A, 0, none⟩ ⟨R, 0, none⟩ a (n0 0)).trans z0
  have y1 := (World.cell?_setCell_other w ⟨A, 0, none⟩ ⟨R, 1, none⟩ a (n0 1)).trans z1
  have y2 := (World.cell?_setCell_other w ⟨A, 0, none⟩ ⟨R, 2, none⟩ a (n0 2)).trans z2
  have hs : (w.setCell ⟨A, 0, none⟩ a).heap.size = w.heap.size := by simp
  generalize w.setCell ⟨A, 0, none⟩ a = W at *
  refine ⟨?_, ?_, ?_⟩
  all_goals
    show World.cell? (World.alloc _ _) _ = _
    rw [World.cell?_alloc_lt _ _ _ (by simp [hs]; exact hR)]
  · rw [World.cell?_setCell_other _ _ _ _ (nn 2 0 (by omega)), World.cell?_setCell_other _ _ _ _ (nn 1 0 (by omega))]
    exact World.cell?_setCell_same _ _ _ y0
  · rw [World.cell?_setCell_other _ _ _ _ (nn 2 1 (by omega))]
    exact World.cell?_setCell_same _ _ _ ((World.cell?_setCell_other _ _ _ _ (nn 0 1 (by omega))).trans y1)
  · exact World.cell?_setCell_same _ _ _ ((World.cell?_setCell_other _ _ _ _ (nn 1 2 (by omega))).trans ((World.cell?_setCell_other _ _ _ _ (nn 0 2 (by omega))).trans y2))

set_option maxHeartbeats 2000000 in
theorem next_tok (s : ByteArray) (w : World) (A B k g : Nat) (pL pW : Addr) (hL : Laid w pL pW) (hs : s.size ≤ 8192) (hk : k ≤ s.size)
   (hA : w.heap[A]? = some (.cells #[.int .i64 k] 3 (0, 0))) (hB : w.heap[B]? = some (.cells #[.string s] 9 (0, 0))) (hAB : A ≠ B) (hA4 : 0 < A ∧ 1 < A ∧ 2 < A) (hpL : pL.block ≠ A) (hpW : pW.block ≠ A) (q n : Nat)
   (hg : gapG false ((lst s).drop k) = g) (hsc : scanF ((lst s).drop (k + g)) = .tok q n) :
   Calls Tryz.prog 18 #[.pointer (some ⟨A, 0, none⟩), .pointer (some ⟨B, 0, none⟩)] w fun e w' => e = .returned (.tuple #[.agg #[.int .i64 q, .string (s.extract (k + g) (k + g + n)), .int .i64 (k + g : Nat)], .nilIface]) ∧ Moved A (k + g + n : Nat) w w' := by
  have hgl : k + g ≤ s.size := by
    have := gap_le false ((lst s).drop k); rw [List.length_drop, lst_length, hg] at this; omega
  have hn : k + g + n ≤ s.size := by
    have := (scan_le _ _ _ hsc).1; rw [List.length_drop, lst_length] at this; omega
  have HA := Lib.hid hA
  have HB := Lib.hid hB
  obtain ⟨a1, a2, a3⟩ := blk_cell hA
  obtain ⟨b1, b2, b3⟩ := blk_cell hB
  clear hA hB
  rw [← lst_from] at hsc hg
  have Hsc := Lib.hid hsc
  have Hg := Lib.hid hg
  clear hsc hg
  go_enter Tryz.func18, Tryz.ntmps18
  go_upto_region 1 with fail
  go_cut [4] (fun s4 wx => Moved A (k + g : Nat) w wx ∧ wx.heap[w.heap.size]? = some zeroTok)
  case first =>
    go_region_with (go_at_call 19; refine (gap_b _ _ (by simp; omega) _ Hg.out).mono ?_; rintro e w' ⟨rfl, rfl⟩)
    all_goals
      go_wp2_with fail
      go_meet
      exact first_rel HA.out (by omega)
  case rest =>
    obtain ⟨hm, hz⟩ := hcut
    have hL2 := hL.grown hm.grown hA4 hpL hpW
    have hb1 : wc.heap[B]? = some (.cells #[.string s] 9 (0, 0)) := (hm.grown.block B b3 (fun e => hAB (by injection e with e; exact e.symm))).trans HB.out
    have HB2 := Lib.hid hb1
    obtain ⟨c1, c2, c3⟩ := blk_cell hb1
    obtain ⟨d1, d2, d3⟩ := blk_cell hm.cell
    have Hm := Lib.hid hm
    have Hz := Lib.hid hz
    clear hm hz hb1
    go_wp2_with (go_at_call 20; refine (scan_tok _ _ pL pW hL2 (by simp; omega) _ _ Hsc.out).mono ?_; rintro e w2 ⟨rfl, hq⟩; have Hq := Lib.hid hq; clear hq)
    obtain ⟨nd, hw⟩ := Hq.out
    have hm2 : Moved A (k + g : Nat) w w2 := by rw [hw]; exact Hm.out.drewN nd
    have hz2 : w2.heap[w.heap.size]? = some zeroTok := by rw [hw]; exact Hz.out
    have hb2 : w2.heap[B]? = some (.cells #[.string s] 9 (0, 0)) := by rw [hw]; exact HB2.out
    clear hw Hq Hm Hz HB2 c1 c2 c3 d1 d2 d3 hL2
    obtain ⟨c1, c2, c3⟩ := blk_cell hb2
    obtain ⟨d1, d2, d3⟩ := blk_cell hm2.cell
    have Hm := Lib.hid hm2
    have hzs : w.heap.size < w2.heap.size := (Array.getElem?_eq_some_iff.1 hz2).1
    have z0 : w2.cell? ⟨w.heap.size, 0, none⟩ = some (.int .i64 0) := by simp [World.cell?, hz2, zeroTok]
    have z1 : w2.cell? ⟨w.heap.size, 1, none⟩ = some (.string ⟨#[]⟩) := by simp [World.cell?, hz2, zeroTok]
    have z2 : w2.cell? ⟨w.heap.size, 2, none⟩ = some (.int .i64 0) := by simp [World.cell?, hz2, zeroTok]
    have zf : ∀ i, w2.frozen? ⟨w.heap.size, i, none⟩ = false := fun i => by simp [World.frozen?, hz2, zeroTok]
    have zf0 := zf 0
    have zf1 := zf 1
    have zf2 := zf 2
    have Hz := Lib.hid hz2
    have Hb := Lib.hid hb2
    clear zf hm2 hz2 hb2
    have e1 := World.new_ne w2 ⟨A, 0, none⟩ d1
    have e2 := World.new_ne w2 ⟨B, 0, none⟩ c1
    have q1 : (0 : Int) ≤ (k : Int) + (g : Int) := by omega
    have q2 : (0 : Int) ≤ (k : Int) + (g : Int) + (n : Int) := by omega
    have q3 : (k : Int) + (g : Int) ≤ (k : Int) + (g : Int) + (n : Int) := by omega
    have q4 : (k : Int) + (g : Int) + (n : Int) ≤ (s.size : Int) := by omega
    have q5 : ((k : Int) + (g : Int)).toNat = k + g := by omega
    have q6 : ((k : Int) + (g : Int) + (n : Int)).toNat = k + g + n := by omega
    have q7 : IntKind.i64.wrap ((k : Int) + (g : Int) + (n : Int)) = (k : Int) + (g : Int) + (n : Int) := IntWalk.i64_in _ (by omega)
    go_region
    go_wp2_with fail
    have hAz : ¬ A = w.heap.size := by omega
    obtain ⟨f0, f1, f2⟩ := three_cells (w := w2) (A := A) (R := w.heap.size) hAz z0 z1 z2 hzs (.int .i64 ((k : Int) + (g : Int) + (n : Int))) (.int .i64 q) (.string (s.extract (k + g) (k + g + n))) (.int .i64 ((k : Int) + (g : Int))) (.cells #[.int .i64 q, .string (s.extract (k + g) (k + g + n)), .int .i64 ((k : Int) + (g : Int))] 62)
    refine bodyPost_ret (v := .tuple #[.agg #[.int .i64 q, .string (s.extract (k + g) (k + g + n)), .int .i64 ((k : Int) + (g : Int))], .nilIface]) ?_ rfl ⟨rfl, ?_⟩
    · simp [results, Tryz.results18, go_sem, f0, f1, f2]
    · exact (((((Moved.set Hm.out.grown Hm.out.cell).setNew a3 (Nat.le_refl _) _).setNew a3 (Nat.le_refl _) _).setNew a3 (Nat.le_refl _) _).alloc _).drew
end Go.Proofs.YtoafcpbpnkfhoaaGreatDoor.Lex
