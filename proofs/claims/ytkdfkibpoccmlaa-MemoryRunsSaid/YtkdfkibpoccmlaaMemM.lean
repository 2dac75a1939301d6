/-
  Contract of package memory's method Copy: another memory, the same blocks on values of their own. (Of a memory that there is, of blocks of at most 16 values.)
-/
import Derived.Test.YtkdfkibpoccmlaaMemL
namespace Go.Proofs.Ytkdfkibpoccmlaa.Mem
open Go.RowKit

def tv (x : Bk) : Int × List Int := (x.ty, x.vals)

theorem made_blk (n : Nat) (h : n ≤ 100000) : ∀ w : World, (Instr.makeSlice 27 (.int .i64 (n : Int)) (.int .i64 (n : Int))).run Try.prog w = .ok (.slice (some ⟨w.heap.size, 0, none⟩) n n) (w.alloc (.cells (madeCells #[.int .i64 0, .slice none 0 0] (n * 2)) 40)) := by
  intro w
  obtain ⟨i0, hi0, hz0, hz1, hz2⟩ := info_parts blk_info
  have := run_make (P := Try.prog) w 27 40 i0 _ Try.underlying27 hi0 hz0 .i64 .i64 n n (by omega) (by omega) (by rw [hz2]; omega) (by omega)
  rw [hz1] at this
  exact this

/-- A copy under way: the blocks K are done; the new list lies at w.heap.size, the new memory behind it. -/
structure Cop (w wx : World) (L K : List Bk) : Prop where
  kept : Kept w wx
  le : K.length ≤ L.length
  same : K.map tv = (L.map tv).take K.length
  box : wx.heap[w.heap.size + 1]? = some (.cells #[.slice (some ⟨w.heap.size, 0, none⟩) L.length L.length] 51 (0, 0))
  list : ∃ cur, wx.heap[w.heap.size]? = some (.cells cur 40 (0, 0)) ∧ cur.size = L.length * 2 ∧ cur.toList.take (K.length * 2) = bkCells K
  inn : ∀ x ∈ K, Inn w.heap.size wx x ∧ w.heap.size + 2 ≤ x.g
  sep : (K.map (·.g)).Nodup

theorem Cop.start (w : World) (L : List Bk) :
    Cop w ((w.alloc (.cells (madeCells #[.int .i64 0, .slice none 0 0] (L.length * 2)) 40)).alloc (.cells #[.slice (some ⟨w.heap.size, 0, none⟩) L.length L.length] 51)) L [] := by
  refine ⟨((Kept.refl w).alloc _).alloc _, by simp, by simp, ?_, ⟨madeCells #[.int .i64 0, .slice none 0 0] (L.length * 2), ?_, size_madeCells _ _, by simp [bkCells]⟩, (by intro x hx; cases hx), List.nodup_nil⟩
  · have := heap_alloc_new (w.alloc (.cells (madeCells #[.int .i64 0, .slice none 0 0] (L.length * 2)) 40)) (.cells #[.slice (some ⟨w.heap.size, 0, none⟩) L.length L.length] 51)
    simpa using this
  · rw [Below.heap_alloc _ _ _ (by simp)]; exact heap_alloc_new _ _

theorem Cop.kept' {w wx wy : World} {L K : List Bk} (h : Cop w wx L K) (hk : Kept wx wy) : Cop w wy L K := by
  obtain ⟨cur, h1, h2, h3⟩ := h.list
  exact ⟨h.kept.trans hk, h.le, h.same, Kept.heap hk h.box, ⟨cur, Kept.heap hk h1, h2, h3⟩, fun x hx => ⟨(h.inn x hx).1.chg (S := fun _ => False) (Chg.of_kept hk) id, (h.inn x hx).2⟩, h.sep⟩

theorem Cop.cell {w wx : World} {L K : List Bk} (h : Cop w wx L K) (j : Nat) (hj : j < L.length * 2) : ∃ u, wx.cell? ⟨w.heap.size, j, none⟩ = some u := by
  obtain ⟨cur, h1, h2, h3⟩ := h.list
  exact ⟨cur[j], by simp [World.cell?, h1, hj, h2]⟩

theorem Cop.step {w wx : World} {L K : List Bk} (h : Cop w wx L K) {y : Bk} (hi : K.length < L.length) (h1 : y.ty = L[K.length].ty) (h2 : y.vals = L[K.length].vals) {B : Nat} (hy : Inn B wx y) (hB : w.heap.size + 2 ≤ B) (hn : ∀ x ∈ K, x.g ≠ y.g) :
    Cop w ((wx.setCell ⟨w.heap.size, K.length * 2, none⟩ (.int .i64 y.ty)).setCell ⟨w.heap.size, K.length * 2 + 1, none⟩ (bkVal y)) L (K ++ [y]) := by
  obtain ⟨cur, g1, g2, g3⟩ := h.list
  have hg := hy.lo
  have hfar : ∀ (x : Bk) (C : Nat), Inn C wx x → w.heap.size + 2 ≤ x.g → Inn C ((wx.setCell ⟨w.heap.size, K.length * 2, none⟩ (.int .i64 y.ty)).setCell ⟨w.heap.size, K.length * 2 + 1, none⟩ (bkVal y)) x :=
    fun x C hx hl => (hx.far _ _ (by simp; omega)).far _ _ (by simp; omega)
  have e1 := heap_setCell_same _ _ (K.length * 2) _ _ (.int .i64 y.ty) g1
  have e2 := heap_setCell_same _ _ (K.length * 2 + 1) _ _ (bkVal y) e1
  refine ⟨(h.kept.setCell (by simp) _).setCell (by simp) _, by simp; omega, ?_, ?_, ⟨_, e2, by simpa using g2, ?_⟩, ?_, ?_⟩
  · rw [List.map_append, h.same, List.length_append]
    have : (L.map tv)[K.length]? = some (tv y) := by simp [tv, h1, h2, hi]
    rw [List.length_singleton, List.take_add_one, this]; rfl
  · rw [Below.heap_setCell _ _ _ _ (by simp), Below.heap_setCell _ _ _ _ (by simp)]; exact h.box
  · rw [bkCells_snoc, List.length_append]
    have h4 : (K.length + [y].length) * 2 = K.length * 2 + 2 := by simp; omega
    rw [h4, Array.toList_setIfInBounds, Array.toList_setIfInBounds, ← g3]
    have hs : cur.toList.length = L.length * 2 := by simpa using g2
    apply List.ext_getElem?
    intro j
    rw [List.getElem?_take, List.getElem?_append, List.length_take, hs, Nat.min_eq_left (by omega)]
    by_cases c1 : j < K.length * 2
    · rw [if_pos (by omega), if_pos c1, List.getElem?_take, if_pos c1, List.getElem?_set_ne (by omega), List.getElem?_set_ne (by omega)]
    · rw [if_neg c1]
      by_cases c2 : j = K.length * 2
      · subst c2
        rw [if_pos (by omega), List.getElem?_set_ne (by omega), List.getElem?_set_self (by simp; omega)]; simp [bkCell]
      · by_cases c3 : j = K.length * 2 + 1
        · subst c3
          rw [if_pos (by omega), List.getElem?_set_self (by simp; omega)]; simp [bkCell]
        · rw [if_neg (by omega), List.getElem?_eq_none (by simp [bkCell]; omega)]
  · intro x hx
    rw [List.mem_append, List.mem_singleton] at hx
    rcases hx with hx | rfl
    · exact ⟨hfar x _ (h.inn x hx).1 (h.inn x hx).2, (h.inn x hx).2⟩
    · exact ⟨hfar _ _ (hy.low (by omega)) (by omega), by omega⟩
  · rw [List.map_append, List.nodup_append]
    refine ⟨h.sep, by simp, ?_⟩
    intro a ha b hb
    simp only [List.mem_map] at ha
    obtain ⟨x, hx, rfl⟩ := ha
    simp only [List.map_cons, List.map_nil, List.mem_singleton] at hb
    subst hb
    exact hn x hx

theorem Cop.done {w wx : World} {L K : List Bk} (h : Cop w wx L K) (hk : K.length = L.length) (hl : L.length ≤ 100000) (hp : ∀ x ∈ L, 0 < x.vals.length) :
    MemAt w.heap.size 51 wx (w.heap.size + 1) (.slice (some ⟨w.heap.size, 0, none⟩) L.length L.length) K ∧ K.map tv = L.map tv := by
  obtain ⟨cur, g1, g2, g3⟩ := h.list
  have hs : K.map tv = L.map tv := by rw [h.same, List.take_of_length_le (by simp; omega)]
  refine ⟨⟨by omega, h.box, ⟨by rw [bkCells_length], .inr ⟨w.heap.size, L.length, cur, by rw [hk], Nat.le_refl _, g1, by omega, by simp only [maxLen]; omega, g2, g3⟩⟩, fun x hx => (h.inn x hx).1, h.sep, ?_⟩, hs⟩
  intro x hx
  have : tv x ∈ L.map tv := by rw [← hs]; exact List.mem_map_of_mem hx
  obtain ⟨z, hz, hzz⟩ := List.mem_map.1 this
  have := hp z hz
  simp only [tv, Prod.mk.injEq] at hzz
  rw [← hzz.2]; exact this

set_option maxRecDepth 100000 in
set_option maxHeartbeats 4000000 in
theorem copy_any {B : Nat} {w : World} {p : Nat} {v : Value} {L : List Bk} (h : MemAt B 51 w p v L) (hl : L.length ≤ 100000) (hb : ∀ x ∈ L, x.vals.length ≤ 16) :
    Calls Try.prog 17 #[.pointer (some ⟨p, 0, none⟩)] w fun e w' => ∃ q, e = .returned (.pointer (some ⟨q, 0, none⟩)) ∧ Hid (Kept w w' ∧ ∃ v' K, MemAt w.heap.size 51 w' q v' K ∧ K.map tv = L.map tv) := by
  have HL := len_any h
  have hmk := made_blk L.length hl
  have HM := Lib.hid h
  have Hb := Lib.hid hb
  have c0 := box_cell h.box 0 _ rfl
  have hps := box_lt h.box
  obtain ⟨a, c, rfl⟩ := h.len
  have HS := Lib.hid (Cop.start w L)
  clear h hb
  go_enter Try.func17, Try.ntmps17
  go_wp2_with (first | (go_at_call 18; refine HL.mono ?_; rintro e w' ⟨rfl, rfl⟩))
  go_loopw [18] (fun i wz => ∃ (K : List Bk) (wx : World), i = .int .i64 (K.length : Int) ∧ wx = wz ∧ Hid (Cop w wx L K)) (fun i _ => L.length - (intOf i).toNat)
  case atStart => exact ⟨[], _, rfl, rfl, HS⟩
  case round =>
    obtain ⟨K, wx, rfl, rfl, HC⟩ := hrel
    have hle := HC.out.le
    clear HS
    by_cases hk : K.length < L.length
    case neg =>
      go_wp2
      go_ret
      have hd := HC.out.done (by omega) hl HM.out.pos
      exact ⟨_, rfl, Lib.hid ⟨HC.out.kept, _, _, hd⟩⟩
    rcases HM.out.out with ⟨rfl, -⟩ | ⟨o, cap, cur, hv, ho, hc, hm, hcell⟩
    · simp at hk
    obtain ⟨rfl, rfl⟩ : a = some ⟨o, 0, none⟩ ∧ c = cap := by injection hv with e1 e2 e3; exact ⟨e1, e3⟩
    have hkw := HC.out.kept
    obtain ⟨c1, c2⟩ := hcell K.length hk
    have hos := box_lt ho
    have d1 : wx.cell? ⟨o, K.length * 2, none⟩ = some (.int .i64 L[K.length].ty) := (World.cell?_of_block (hkw.block o hos)).trans c1
    have d2 : wx.cell? ⟨o, K.length * 2 + 1, none⟩ = some (bkVal L[K.length]) := (World.cell?_of_block (hkw.block o hos)).trans c2
    have hsz := hkw.size
    have hlt := box_lt HC.out.box
    have hx := (HM.out.inn L[K.length] (List.getElem_mem hk)).chg (S := fun _ => False) (Chg.of_kept hkw) id
    have HW : Hid (∀ W, Kept wx W → Calls Try.prog 26 #[.agg #[.int .i64 L[K.length].ty, bkVal L[K.length]]] W fun e w' => ∃ y : Bk, e = .returned (.agg #[.int .i64 L[K.length].ty, bkVal y]) ∧ y.ty = L[K.length].ty ∧ y.vals = L[K.length].vals ∧ Hid (Inn W.heap.size w' y ∧ W.heap.size ≤ y.g ∧ Kept W w')) := Lib.hid fun W hk' => twin_any (hx.chg (S := fun _ => False) (Chg.of_kept hk') id) (Hb.out _ (List.getElem_mem hk))
    have z0 := box_cell HC.out.box 0 _ rfl
    have HLt : Hid (L[K.length].ty = L[K.length].ty) := Lib.hid rfl
    obtain ⟨p1, n1, k1, hv1⟩ : ∃ p n c, bkVal L[K.length] = .slice p n c := ⟨_, _, _, rfl⟩
    rw [hv1] at HW d2
    generalize htt : L[K.length].ty = tt at *
    generalize hvv : L[K.length].vals = vv at *
    have HT := Lib.hid (And.intro htt hvv)
    have HN := Lib.hid (heap_alloc_new wx (.cells #[.int .i64 tt, .slice p1 n1 k1] 40))
    clear c1 c2 ho hcell hx hv hv1 htt hvv hkw
    go_wp2
    go_region_with (go_at_call 26; refine (HW.out _ (by repeat (first | exact Kept.refl _ | apply Kept.drew | apply Kept.alloc))).mono ?_; rintro e wy ⟨y, rfl, hy1, hy2, hy3⟩; have hC2 := Cop.kept' HC.out (((Kept.refl _).alloc _).drew.trans hy3.out.2.2); have HC2 := Lib.hid hC2; have q2 := Kept.heap hy3.out.2.2 HN.out; have y0 := box_cell q2 0 _ rfl; have y1 := box_cell q2 1 _ rfl; have x0 := box_cell hC2.box 0 _ rfl; obtain ⟨u0, x1⟩ := hC2.cell (K.length * 2) (by omega); obtain ⟨u1, x2⟩ := hC2.cell (K.length * 2 + 1) (by omega); obtain ⟨cur2, hcc, -, -⟩ := hC2.list; have f1 := box_froz hcc (K.length * 2); have f2 := box_froz hcc (K.length * 2 + 1); have Hy := Lib.hid (And.intro hy1 (And.intro hy2 hy3.out)); clear hcc hy1 hy2 hy3 q2 hC2; unfold bkVal)
    all_goals
      go_wp2
      have hy := Hy.out
      have hs := HC2.out.step (y := y) hk (hy.1.trans HT.out.1.symm) (hy.2.1.trans HT.out.2.symm) hy.2.2.1 (by simp; omega) (fun x hx => by
        obtain ⟨c', g1, -⟩ := (HC.out.inn x hx).1.cells
        have g2 := box_lt g1
        have g3 := hy.2.2.2.1
        simp at g3; omega)
      rw [hy.1] at hs
      exact ⟨⟨K ++ [y], _, by simp, rfl, Lib.hid hs⟩, by simp [intOf]; omega⟩
end Go.Proofs.Ytkdfkibpoccmlaa.Mem
