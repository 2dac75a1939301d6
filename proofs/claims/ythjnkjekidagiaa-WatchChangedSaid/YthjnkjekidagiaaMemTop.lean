/-
  Contracts of slices.Clone at []int, of package memory's twin, and of its method Block: a copy on values of its own. (Of a row that has a value.)
  Contract of package memory's method Copy: another memory, the same blocks on values of their own. (Of a memory that there is, of blocks of at most 16 values.)
  A memory's blocks as plain rows (type, values): what Get and Set do to them; what a memory of our own does leaves what was there alone.
  Package memory's methods over plain rows: Add, Get, Set, Block, Copy.
  Contracts of slices.Delete at []api.Block (up to the end of the list) and of package memory's method Cut: only the first blocks are there now. (Of a memory that there is.)
  Contract of the document's Cut for package memory. (Of a memory that there is.)
  Two memories beside each other, package memory's and the document's, with the same rows: what each call does to both.
-/
import Derived.Test.YthjnkjekidagiaaMemJ
import Derived.Test.YthjnkjekidagiaaMemD
import Derived.Test.YthjnkjekidagiaaMemT
import Derived.Lib.SliceRun
import Derived.Lib.Walk
import Derived.Test.YthjnkjekidagiaaMemK
namespace Go.Proofs.Ythjnkjekidagiaa.Mem
open Go.RowKit

set_option maxHeartbeats 2000000 in
theorem clone_any {B : Nat} {w : World} {x : Bk} (h : Inn B w x) (hb : x.vals.length ≤ 16) :
    Calls Try.prog 40 #[bkVal x] w fun e w' => ∃ y : Bk, e = .returned (bkVal y) ∧ y.ty = x.ty ∧ y.vals = x.vals ∧ Hid (Inn w.heap.size w' y ∧ w.heap.size ≤ y.g ∧ Kept w w') := by
  obtain ⟨cur, g1, g2, g3, g4, g5⟩ := h.cells
  have A : Hid (∀ j (hj : j < x.vals.length), w.cell? ⟨x.g, j, none⟩ = some (.int .i64 x.vals[j])) := Lib.hid fun j hj => h.val j hj
  clear h g1 g4 g5
  obtain ⟨i0, hi, hz0, hz1, hz2⟩ := info_parts int_info'
  have q22 : ∀ (w : World) (a : Option Addr) (n c n' c' : Nat), (binOp .eql 22 (.slice a n c) (.slice none n' c')).run Try.prog w = .ok (.bool a.isNone) w := fun w a n c n' c' => Lib.run_eql_slice_nil w _ _ a n c n' c' Try.underlying22
  have u22 : ∀ w, Sem.run Try.prog (underlying 22) w = .ok (TypeDesc.slice 3) w := run_underlying Try.underlying22
  unfold bkVal
  go_enter Try.func40, Try.ntmps40
  go_wp2_with (at_builtin; refine wpList_append_own _ rfl _ _ 22 rfl w.heap.size 3 i0 (.int .i64 0) 1 8 Try.underlying22 hi hz0 hz1 hz2 rfl (by decide) _ _ _ rfl (World.ownsRow_made w #[] 0 (Nat.le_refl _) (Nat.zero_le _) rfl) ⟨x.g, 0, none⟩ x.vals.length x.c (ints x.vals) rfl ?qc1 ?qc2 ?qc3 ?qc4 ?qc5 ?qc6 ?_)
  case qc1 => simp [ints]
  case qc2 =>
    intro j u hj
    have hjn : j < x.vals.length := by simpa [ints] using (List.getElem?_eq_some_iff.1 hj).1
    rw [Addr.add_lit, Nat.zero_add]
    refine Lib.cell?_alloc_some _ ?_
    rw [A.out j hjn]
    simpa [ints, hjn] using hj
  case qc3 => intro u hu; obtain ⟨x, _, rfl⟩ := List.mem_map.1 hu; rfl
  case qc4 => unfold maxLen; omega
  case qc5 => omega
  case qc6 => simp
  intro v' w1 hown hgrow hnil
  obtain ⟨g, cap, rfl, hg⟩ : ∃ g cap, v' = .slice (some ⟨g, 0, none⟩) x.vals.length cap ∧ w.heap.size ≤ g := by
    rcases hown.2 with ⟨e, _⟩ | ⟨g, cap, c, e, h2, _⟩
    · exact absurd e hnil
    · exact ⟨g, cap, e, h2⟩
  have Ho := Lib.hid hown
  have Hg := Lib.hid hgrow
  clear hown hgrow hnil
  go_wp2
  go_ret
  exact ⟨⟨g, cap, x.ty, x.vals⟩, rfl, rfl, rfl, Lib.hid ⟨Ho.out, hg, ((Below.refl _ w).alloc (Nat.le_refl _) _).grown Hg.out (by simp) (by intro k hk; simp [Value.ownBlock] at hk; omega)⟩⟩

theorem two_boxes (w : World) (a b c d : Value) (t u : TypeId) :
    ((w.alloc (.cells #[a, b] t)).alloc (.cells #[c, d] u)).heap[w.heap.size]? = some (.cells #[a, b] t (0, 0)) ∧ ((w.alloc (.cells #[a, b] t)).alloc (.cells #[c, d] u)).heap[w.heap.size + 1]? = some (.cells #[c, d] u (0, 0)) := by
  constructor
  · rw [Below.heap_alloc _ _ _ (by simp)]; exact heap_alloc_new _ _
  · have := heap_alloc_new (w.alloc (.cells #[a, b] t)) (.cells #[c, d] u)
    simpa using this
theorem Kept.heap {a b : World} (h : Kept a b) {k : Nat} {o : Obj} (hk : a.heap[k]? = some o) : b.heap[k]? = some o := (h.block k (box_lt hk)).trans hk
theorem two_set {w : World} {b : Nat} {u v : Value} {t : TypeId} (h : w.heap[b]? = some (.cells #[u, v] t (0, 0))) (x y : Value) :
    ((w.setCell ⟨b, 0, none⟩ x).setCell ⟨b, 1, none⟩ y).heap[b]? = some (.cells #[x, y] t (0, 0)) := by
  have e1 := heap_setCell_same _ _ 0 _ _ x h
  have e2 := heap_setCell_same _ _ 1 _ _ y e1
  simpa using e2
theorem Inn.far {B : Nat} {w : World} {y : Bk} (h : Inn B w y) (p : Addr) (u : Value) (hn : p.block ≠ y.g) : Inn B (w.setCell p u) y :=
  h.chg (S := fun k => k = p.block) ((Chg.refl (fun k => k = p.block) w).setCell (fun _ => rfl) _) (fun e => hn e.symm)
set_option maxHeartbeats 2000000 in
theorem twin_any {B : Nat} {w : World} {x : Bk} (h : Inn B w x) (hb : x.vals.length ≤ 16) :
    Calls Try.prog 27 #[.agg #[.int .i64 x.ty, bkVal x]] w fun e w' => ∃ y : Bk, e = .returned (.agg #[.int .i64 x.ty, bkVal y]) ∧ y.ty = x.ty ∧ y.vals = x.vals ∧ Hid (Inn w.heap.size w' y ∧ w.heap.size ≤ y.g ∧ Kept w w') := by
  have HC : Hid (∀ W, Kept w W → Calls Try.prog 40 #[bkVal x] W fun e w' => ∃ y : Bk, e = .returned (bkVal y) ∧ y.ty = x.ty ∧ y.vals = x.vals ∧ Hid (Inn W.heap.size w' y ∧ W.heap.size ≤ y.g ∧ Kept W w')) := Lib.hid fun W hk => clone_any (h.chg (S := fun _ => False) (Chg.of_kept hk) id) hb
  obtain ⟨p, n, c, hv⟩ : ∃ p n c, bkVal x = .slice p n c := ⟨_, _, _, rfl⟩
  rw [hv] at HC ⊢
  have H2 := Lib.hid (two_boxes w (.int .i64 x.ty) (.slice p n c) (.int .i64 0) (.slice none 0 0) 62 62)
  clear h
  go_enter Try.func27, Try.ntmps27
  go_wp2
  go_region_with (go_at_call 40; refine (HC.out _ (by repeat (first | exact Kept.refl _ | apply Kept.drew | apply Kept.alloc))).mono ?_; rintro e wx ⟨y, rfl, hy1, hy2, hy3⟩; have Hy := Lib.hid (And.intro hy1 (And.intro hy2 hy3.out)); have q1 := Kept.heap hy3.out.2.2 H2.out.1; have q2 := Kept.heap hy3.out.2.2 H2.out.2; have z0 := box_cell q1 0 _ rfl; have z1 := box_cell q1 1 _ rfl; have y0 := box_cell q2 0 _ rfl; have y1 := box_cell q2 1 _ rfl; have f0 := box_froz q2 0; have f1 := box_froz q2 1; have Q2 := Lib.hid q2; clear hy1 hy2 hy3 q1 q2; unfold bkVal)
  all_goals
    go_wp2
    have hy := Hy.out
    have q3 := two_set Q2.out (.int .i64 x.ty) (.slice (some ⟨y.g, 0, none⟩) y.vals.length y.c)
    have h0 := box_cell q3 0 _ rfl
    have h1 := box_cell q3 1 _ rfl
    have hg : w.heap.size + 2 ≤ y.g := by simpa using hy.2.2.2.1
    refine bodyPost_ret (v := .agg #[.int .i64 x.ty, bkVal y]) ?_ rfl ⟨y, rfl, hy.1, hy.2.1, Lib.hid ⟨?_, by omega, ?_⟩⟩
    · simp [results, Try.results27, go_sem, h0, h1, bkVal]
    · exact ((hy.2.2.1.low (by simp; omega)).far _ _ (by simp; omega)).far _ _ (by simp; omega)
    · exact ((((((Kept.refl w).alloc _).alloc _).drew.trans hy.2.2.2.2).setCell (by simp) _).setCell (by simp) _)

set_option maxHeartbeats 2000000 in
theorem block_any {B : Nat} {w : World} {p : Nat} {v : Value} {L : List Bk} (h : MemAt B 64 w p v L) (hb : ∀ x ∈ L, x.vals.length ≤ 16) (id : Int) :
    Calls Try.prog 37 #[.pointer (some ⟨p, 0, none⟩), .int .i64 id] w fun e w' => ∃ vs, e = .returned (.tuple #[.agg #[.int .i64 (blkT L id), vs], .bool (blkIn L id)]) ∧ Hid (Kept w w' ∧ w'.ownsRow w.heap.size 3 1 vs (blkV L id).length (ints (blkV L id))) := by
  have HT : Hid (∀ W, Kept w W → Calls Try.prog 41 #[.pointer (some ⟨p, 0, none⟩), .int .i64 id] W fun e w' => e = .returned (.bool (decide (0 ≤ id ∧ id < L.length))) ∧ W = w') := Lib.hid fun W hk => there_any (h.kept hk) id
  have hn := fun (u v : Value) => heap_alloc_new w (.cells #[u, v] 62)
  by_cases hin : 0 ≤ id ∧ id < L.length
  case neg =>
    obtain ⟨e1, e2, e3⟩ := blk_no hin
    have hd : decide (0 ≤ id ∧ id < (L.length : Int)) = false := decide_eq_false hin
    rw [e1, e2, e3]
    rw [hd] at HT
    have h0 := box_cell (hn (.int .i64 0) (.slice none 0 0)) 0 _ rfl
    have h1 := box_cell (hn (.int .i64 0) (.slice none 0 0)) 1 _ rfl
    clear h e1 e2 e3 hd hin hn
    go_enter Try.func37, Try.ntmps37
    go_wp2_with (first | (go_at_call 41; refine (HT.out _ ((Kept.refl w).alloc _)).mono ?_; rintro e w' ⟨rfl, rfl⟩))
    refine bodyPost_ret (v := .tuple #[.agg #[.int .i64 0, .slice none 0 0], .bool false]) ?_ rfl ⟨_, rfl, Lib.hid ⟨(Kept.refl w).alloc _, rfl, .inl ⟨rfl, rfl⟩⟩⟩
    simp [results, Try.results37, go_sem, h0, h1]
  have hd : decide (0 ≤ id ∧ id < (L.length : Int)) = true := decide_eq_true hin
  rw [hd] at HT
  clear hd
  obtain ⟨i, rfl⟩ : ∃ i : Nat, id = i := ⟨id.toNat, by omega⟩
  have hi : i < L.length := by omega
  rcases h.out with ⟨rfl, -⟩ | ⟨o, cap, cur, rfl, ho, hc, hm, hcell⟩
  · simp at hi
  obtain ⟨e1, e2, e3⟩ := blk_yes hi
  rw [e1, e2, e3]
  obtain ⟨c1, c2⟩ := hcell i hi
  have c0 := box_cell h.box 0 _ rfl
  have hx := h.inn L[i] (List.getElem_mem hi)
  have HW : Hid (∀ W, Kept w W → Calls Try.prog 27 #[.agg #[.int .i64 L[i].ty, bkVal L[i]]] W fun e w' => ∃ y : Bk, e = .returned (.agg #[.int .i64 L[i].ty, bkVal y]) ∧ y.ty = L[i].ty ∧ y.vals = L[i].vals ∧ Hid (Inn W.heap.size w' y ∧ W.heap.size ≤ y.g ∧ Kept W w')) := Lib.hid fun W hk => twin_any (hx.chg (S := fun _ => False) (Chg.of_kept hk) id) (hb _ (List.getElem_mem hi))
  have hps := box_lt h.box
  have hos := box_lt ho
  obtain ⟨p1, n1, k1, hv⟩ : ∃ p n c, bkVal L[i] = .slice p n c := ⟨_, _, _, rfl⟩
  rw [hv] at HW c2
  generalize L[i].ty = tt at *
  generalize L[i].vals = vv at *
  have HN := Lib.hid (hn (.int .i64 0) (.slice none 0 0))
  clear h e1 e2 e3 hcell ho hx hv hn hin hb
  go_enter Try.func37, Try.ntmps37
  go_wp2_with (first | (go_at_call 41; refine (HT.out _ ((Kept.refl w).alloc _)).mono ?_; rintro e w' ⟨rfl, rfl⟩) | (go_at_call 27; refine (HW.out _ ((Kept.refl w).alloc _)).mono ?_; rintro e wx ⟨y, rfl, hy1, hy2, hy3⟩; have Hy := Lib.hid (And.intro hy1 (And.intro hy2 hy3.out)); have q2 := Kept.heap hy3.out.2.2 HN.out; have y0 := box_cell q2 0 _ rfl; have y1 := box_cell q2 1 _ rfl; have f0 := box_froz q2 0; have f1 := box_froz q2 1; have Q2 := Lib.hid q2; clear hy1 hy2 hy3 q2; unfold bkVal))
  have hy := Hy.out
  have q3 := two_set Q2.out (.int .i64 tt) (.slice (some ⟨y.g, 0, none⟩) y.vals.length y.c)
  have h0 := box_cell q3 0 _ rfl
  have h1 := box_cell q3 1 _ rfl
  have hg : w.heap.size + 1 ≤ y.g := by simpa using hy.2.2.2.1
  refine bodyPost_ret (v := .tuple #[.agg #[.int .i64 tt, bkVal y], .bool true]) ?_ rfl ⟨_, rfl, Lib.hid ⟨?_, ?_⟩⟩
  · simp [results, Try.results37, go_sem, h0, h1, bkVal]
  · exact ((((Kept.refl w).alloc _).trans hy.2.2.2.2).setCell (by simp) _).setCell (by simp) _
  · have := ((hy.2.2.1.low (C := w.heap.size) (by simp)).far ⟨w.heap.size, 0, none⟩ (.int .i64 tt) (by simp; omega)).far ⟨w.heap.size, 1, none⟩ (.slice (some ⟨y.g, 0, none⟩) y.vals.length y.c) (by simp; omega)
    rw [← hy.2.1]; exact this
end Go.Proofs.Ythjnkjekidagiaa.Mem
namespace Go.Proofs.Ythjnkjekidagiaa.Mem
open Go.RowKit

theorem made_blk (n : Nat) (h : n ≤ 100000) : ∀ w : World, (Instr.makeSlice 53 (.int .i64 (n : Int)) (.int .i64 (n : Int))).run Try.prog w = .ok (.slice (some ⟨w.heap.size, 0, none⟩) n n) (w.alloc (.cells (madeCells #[.int .i64 0, .slice none 0 0] (n * 2)) 62)) := by
  intro w
  obtain ⟨i0, hi0, hz0, hz1, hz2⟩ := info_parts blk_info
  have := run_make (P := Try.prog) w 53 62 i0 _ Try.underlying53 hi0 hz0 .i64 .i64 n n (by omega) (by omega) (by rw [hz2]; omega) (by omega)
  rw [hz1] at this
  exact this

/-- A copy under way: the blocks K are done; the new list lies at w.heap.size, the new memory behind it. -/
structure Cop (w wx : World) (L K : List Bk) : Prop where
  kept : Kept w wx
  le : K.length ≤ L.length
  same : K.map tv = (L.map tv).take K.length
  box : wx.heap[w.heap.size + 1]? = some (.cells #[.slice (some ⟨w.heap.size, 0, none⟩) L.length L.length] 64 (0, 0))
  list : ∃ cur, wx.heap[w.heap.size]? = some (.cells cur 62 (0, 0)) ∧ cur.size = L.length * 2 ∧ cur.toList.take (K.length * 2) = bkCells K
  inn : ∀ x ∈ K, Inn w.heap.size wx x ∧ w.heap.size + 2 ≤ x.g
  sep : (K.map (·.g)).Nodup

theorem Cop.start (w : World) (L : List Bk) :
    Cop w ((w.alloc (.cells (madeCells #[.int .i64 0, .slice none 0 0] (L.length * 2)) 62)).alloc (.cells #[.slice (some ⟨w.heap.size, 0, none⟩) L.length L.length] 64)) L [] := by
  refine ⟨((Kept.refl w).alloc _).alloc _, by simp, by simp, ?_, ⟨madeCells #[.int .i64 0, .slice none 0 0] (L.length * 2), ?_, size_madeCells _ _, by simp [bkCells]⟩, (by intro x hx; cases hx), List.nodup_nil⟩
  · have := heap_alloc_new (w.alloc (.cells (madeCells #[.int .i64 0, .slice none 0 0] (L.length * 2)) 62)) (.cells #[.slice (some ⟨w.heap.size, 0, none⟩) L.length L.length] 64)
    simpa using this
  · rw [Below.heap_alloc _ _ _ (by simp)]; exact heap_alloc_new _ _

theorem Cop.kept' {w wx wy : World} {L K : List Bk} (h : Cop w wx L K) (hk : Kept wx wy) : Cop w wy L K := by
  obtain ⟨cur, h1, h2, h3⟩ := h.list
  exact ⟨h.kept.trans hk, h.le, h.same, Kept.heap hk h.box, ⟨cur, Kept.heap hk h1, h2, h3⟩, fun x hx => ⟨(h.inn x hx).1.chg (S := fun _ => False) (Chg.of_kept hk) id, (h.inn x hx).2⟩, h.sep⟩

theorem Cop.cell {w wx : World} {L K : List Bk} (h : Cop w wx L K) (j : Nat) (hj : j < L.length * 2) : ∃ u, wx.cell? ⟨w.heap.size, j, none⟩ = some u := by
  obtain ⟨cur, h1, h2, h3⟩ := h.list
  exact ⟨cur[j], by simp [World.cell?, h1, hj, h2]⟩

theorem Cop.step {w wx : World} {L K : List Bk} (h : Cop w wx L K) {y : Bk} (hi : K.length < L.length) (h1 : y.ty = L[K.length].ty) (h2 : y.vals = L[K.length].vals) {B : Nat} (hy : Inn B wx y) (hB : w.heap.size + 2 ≤ B) (hn : ∀ x ∈ K, x.g ≠ y.g) :
    Cop w ((wx.setCell ⟨w.heap.size, K.length * 2, none⟩ (.int .i64 y.ty)).setCell ⟨w.heap.size, K.length * 2 + 1, none⟩ (bkVal y)) L (K ++ [y]) := by
  obtain ⟨cur, g1, g2, g3⟩ := h.list
  have hg := hy.lo
  have hfar : ∀ (x : Bk) (C : Nat), Inn C wx x → w.heap.size + 2 ≤ x.g → Inn C ((wx.setCell ⟨w.heap.size, K.length * 2, none⟩ (.int .i64 y.ty)).setCell ⟨w.heap.size, K.length * 2 + 1, none⟩ (bkVal y)) x :=
    fun x C hx hl => (hx.far _ _ (by simp; omega)).far _ _ (by simp; omega)
  have e1 := heap_setCell_same _ _ (K.length * 2) _ _ (.int .i64 y.ty) g1
  have e2 := heap_setCell_same _ _ (K.length * 2 + 1) _ _ (bkVal y) e1
  refine ⟨(h.kept.setCell (by simp) _).setCell (by simp) _, by simp; omega, ?_, ?_, ⟨_, e2, by simpa using g2, ?_⟩, ?_, ?_⟩
  · rw [List.map_append, h.same, List.length_append]
    have : (L.map tv)[K.length]? = some (tv y) := by simp [tv, h1, h2, hi]
    rw [List.length_singleton, List.take_add_one, this]; rfl
  · rw [Below.heap_setCell _ _ _ _ (by simp), Below.heap_setCell _ _ _ _ (by simp)]; exact h.box
  · rw [bkCells_snoc, List.length_append]
    have h4 : (K.length + [y].length) * 2 = K.length * 2 + 2 := by simp; omega
    rw [h4, Array.toList_setIfInBounds, Array.toList_setIfInBounds, ← g3]
    have hs : cur.toList.length = L.length * 2 := by simpa using g2
    apply List.ext_getElem?
    intro j
    rw [List.getElem?_take, List.getElem?_append, List.length_take, hs, Nat.min_eq_left (by omega)]
    by_cases c1 : j < K.length * 2
    · rw [if_pos (by omega), if_pos c1, List.getElem?_take, if_pos c1, List.getElem?_set_ne (by omega), List.getElem?_set_ne (by omega)]
    · rw [if_neg c1]
      by_cases c2 : j = K.length * 2
      · subst c2
        rw [if_pos (by omega), List.getElem?_set_ne (by omega), List.getElem?_set_self (by simp; omega)]; simp [bkCell]
      · by_cases c3 : j = K.length * 2 + 1
        · subst c3
          rw [if_pos (by omega), List.getElem?_set_self (by simp; omega)]; simp [bkCell]
        · rw [if_neg (by omega), List.getElem?_eq_none (by simp [bkCell]; omega)]
  · intro x hx
    rw [List.mem_append, List.mem_singleton] at hx
    rcases hx with hx | rfl
    · exact ⟨hfar x _ (h.inn x hx).1 (h.inn x hx).2, (h.inn x hx).2⟩
    · exact ⟨hfar _ _ (hy.low (by omega)) (by omega), by omega⟩
  · rw [List.map_append, List.nodup_append]
    refine ⟨h.sep, by simp, ?_⟩
    intro a ha b hb
    simp only [List.mem_map] at ha
    obtain ⟨x, hx, rfl⟩ := ha
    simp only [List.map_cons, List.map_nil, List.mem_singleton] at hb
    subst hb
    exact hn x hx

theorem Cop.done {w wx : World} {L K : List Bk} (h : Cop w wx L K) (hk : K.length = L.length) (hl : L.length ≤ 100000) (hp : ∀ x ∈ L, 0 < x.vals.length) :
    MemAt w.heap.size 64 wx (w.heap.size + 1) (.slice (some ⟨w.heap.size, 0, none⟩) L.length L.length) K ∧ K.map tv = L.map tv := by
  obtain ⟨cur, g1, g2, g3⟩ := h.list
  have hs : K.map tv = L.map tv := by rw [h.same, List.take_of_length_le (by simp; omega)]
  refine ⟨⟨by omega, h.box, ⟨by rw [bkCells_length], .inr ⟨w.heap.size, L.length, cur, by rw [hk], Nat.le_refl _, g1, by omega, by simp only [maxLen]; omega, g2, g3⟩⟩, fun x hx => (h.inn x hx).1, h.sep, ?_⟩, hs⟩
  intro x hx
  have : tv x ∈ L.map tv := by rw [← hs]; exact List.mem_map_of_mem hx
  obtain ⟨z, hz, hzz⟩ := List.mem_map.1 this
  have := hp z hz
  simp only [tv, Prod.mk.injEq] at hzz
  rw [← hzz.2]; exact this

set_option maxRecDepth 100000 in
set_option maxHeartbeats 4000000 in
theorem copy_any {B : Nat} {w : World} {p : Nat} {v : Value} {L : List Bk} (h : MemAt B 64 w p v L) (hl : L.length ≤ 100000) (hb : ∀ x ∈ L, x.vals.length ≤ 16) :
    Calls Try.prog 14 #[.pointer (some ⟨p, 0, none⟩)] w fun e w' => ∃ q, e = .returned (.pointer (some ⟨q, 0, none⟩)) ∧ Hid (Kept w w' ∧ ∃ v' K, MemAt w.heap.size 64 w' q v' K ∧ K.map tv = L.map tv) := by
  have HL := len_any h
  have hmk := made_blk L.length hl
  have HM := Lib.hid h
  have Hb := Lib.hid hb
  have c0 := box_cell h.box 0 _ rfl
  have hps := box_lt h.box
  obtain ⟨a, c, rfl⟩ := h.len
  have HS := Lib.hid (Cop.start w L)
  clear h hb
  go_enter Try.func14, Try.ntmps14
  go_wp2_with (first | (go_at_call 21; refine HL.mono ?_; rintro e w' ⟨rfl, rfl⟩))
  go_loopw [18] (fun i wz => ∃ (K : List Bk) (wx : World), i = .int .i64 (K.length : Int) ∧ wx = wz ∧ Hid (Cop w wx L K)) (fun i _ => L.length - (intOf i).toNat)
  case atStart => exact ⟨[], _, rfl, rfl, HS⟩
  case round =>
    obtain ⟨K, wx, rfl, rfl, HC⟩ := hrel
    have hle := HC.out.le
    clear HS
    by_cases hk : K.length < L.length
    case neg =>
      go_wp2
      go_ret
      have hd := HC.out.done (by omega) hl HM.out.pos
      exact ⟨_, rfl, Lib.hid ⟨HC.out.kept, _, _, hd⟩⟩
    rcases HM.out.out with ⟨rfl, -⟩ | ⟨o, cap, cur, hv, ho, hc, hm, hcell⟩
    · simp at hk
    obtain ⟨rfl, rfl⟩ : a = some ⟨o, 0, none⟩ ∧ c = cap := by injection hv with e1 e2 e3; exact ⟨e1, e3⟩
    have hkw := HC.out.kept
    obtain ⟨c1, c2⟩ := hcell K.length hk
    have hos := box_lt ho
    have d1 : wx.cell? ⟨o, K.length * 2, none⟩ = some (.int .i64 L[K.length].ty) := (World.cell?_of_block (hkw.block o hos)).trans c1
    have d2 : wx.cell? ⟨o, K.length * 2 + 1, none⟩ = some (bkVal L[K.length]) := (World.cell?_of_block (hkw.block o hos)).trans c2
    have hsz := hkw.size
    have hlt := box_lt HC.out.box
    have hx := (HM.out.inn L[K.length] (List.getElem_mem hk)).chg (S := fun _ => False) (Chg.of_kept hkw) id
    have HW : Hid (∀ W, Kept wx W → Calls Try.prog 27 #[.agg #[.int .i64 L[K.length].ty, bkVal L[K.length]]] W fun e w' => ∃ y : Bk, e = .returned (.agg #[.int .i64 L[K.length].ty, bkVal y]) ∧ y.ty = L[K.length].ty ∧ y.vals = L[K.length].vals ∧ Hid (Inn W.heap.size w' y ∧ W.heap.size ≤ y.g ∧ Kept W w')) := Lib.hid fun W hk' => twin_any (hx.chg (S := fun _ => False) (Chg.of_kept hk') id) (Hb.out _ (List.getElem_mem hk))
    have z0 := box_cell HC.out.box 0 _ rfl
    have HLt : Hid (L[K.length].ty = L[K.length].ty) := Lib.hid rfl
    obtain ⟨p1, n1, k1, hv1⟩ : ∃ p n c, bkVal L[K.length] = .slice p n c := ⟨_, _, _, rfl⟩
    rw [hv1] at HW d2
    generalize htt : L[K.length].ty = tt at *
    generalize hvv : L[K.length].vals = vv at *
    have HT := Lib.hid (And.intro htt hvv)
    have HN := Lib.hid (heap_alloc_new wx (.cells #[.int .i64 tt, .slice p1 n1 k1] 62))
    clear c1 c2 ho hcell hx hv hv1 htt hvv hkw
    go_wp2
    go_region_with (go_at_call 27; refine (HW.out _ (by repeat (first | exact Kept.refl _ | apply Kept.drew | apply Kept.alloc))).mono ?_; rintro e wy ⟨y, rfl, hy1, hy2, hy3⟩; have hC2 := Cop.kept' HC.out (((Kept.refl _).alloc _).drew.trans hy3.out.2.2); have HC2 := Lib.hid hC2; have q2 := Kept.heap hy3.out.2.2 HN.out; have y0 := box_cell q2 0 _ rfl; have y1 := box_cell q2 1 _ rfl; have x0 := box_cell hC2.box 0 _ rfl; obtain ⟨u0, x1⟩ := hC2.cell (K.length * 2) (by omega); obtain ⟨u1, x2⟩ := hC2.cell (K.length * 2 + 1) (by omega); obtain ⟨cur2, hcc, -, -⟩ := hC2.list; have f1 := box_froz hcc (K.length * 2); have f2 := box_froz hcc (K.length * 2 + 1); have Hy := Lib.hid (And.intro hy1 (And.intro hy2 hy3.out)); clear hcc hy1 hy2 hy3 q2 hC2; unfold bkVal)
    all_goals
      go_wp2
      have hy := Hy.out
      have hs := HC2.out.step (y := y) hk (hy.1.trans HT.out.1.symm) (hy.2.1.trans HT.out.2.symm) hy.2.2.1 (by simp; omega) (fun x hx => by
        obtain ⟨c', g1, -⟩ := (HC.out.inn x hx).1.cells
        have g2 := box_lt g1
        have g3 := hy.2.2.2.1
        simp at g3; omega)
      rw [hy.1] at hs
      exact ⟨⟨K ++ [y], _, by simp, rfl, Lib.hid hs⟩, by simp [intOf]; omega⟩
end Go.Proofs.Ythjnkjekidagiaa.Mem
namespace Go.Proofs.Ythjnkjekidagiaa.Mem
open Go.RowKit
open Typ (wrapF)

theorem blkIn_tv (L : List Bk) (id : Int) : blkIn L id = decide (0 ≤ id ∧ id < (L.map tv).length) := by unfold blkIn; simp
theorem blkV_tv (L : List Bk) (id : Int) : blkV L id = if 0 ≤ id then (((L.map tv)[id.toNat]?).getD (0, [])).2 else [] := by
  unfold blkV blkIn
  by_cases h : 0 ≤ id
  · by_cases h2 : id < L.length
    · have h3 : id.toNat < L.length := by omega
      simp [h, h2, h3, tv]
    · simp [h, h2]
  · simp [h]
theorem blkT_tv (L : List Bk) (id : Int) : blkT L id = if 0 ≤ id then (((L.map tv)[id.toNat]?).getD (0, [])).1 else 0 := by
  unfold blkT blkIn
  by_cases h : 0 ≤ id
  · by_cases h2 : id < L.length
    · have h3 : id.toNat < L.length := by omega
      simp [h, h2, h3, tv]
    · simp [h, h2]
  · simp [h]
theorem MemAt.kept_add {B : Nat} {tM : TypeId} {w0 w w' : World} {p : Nat} {v : Value} {L : List Bk} (h : MemAt B tM w p v L) (hB : w0.heap.size ≤ B) (hk : Kept w0 w) (hc : Chg (fun k => k = p ∨ v.ownBlock = some k) w w') : Kept w0 w' :=
  kept_new hk hc fun k hk' hs => by
    rcases hs with hs | hs
    · have := h.lo; omega
    · have := own_base h.row hs; omega
theorem MemAt.kept_set {B : Nat} {tM : TypeId} {w0 w w' : World} {p : Nat} {v : Value} {L : List Bk} (h : MemAt B tM w p v L) (hB : w0.heap.size ≤ B) (hk : Kept w0 w) (hc : Chg (fun k => ∃ x ∈ L, k = x.g) w w') : Kept w0 w' :=
  kept_new hk hc fun k hk' hs => by
    obtain ⟨x, hx, rfl⟩ := hs
    have := (h.inn x hx).lo; omega

/-- A list of blocks of so many noughts each, of type I32. -/
def sz (z : List Int) (i : Nat) : Int := 1 + z.getD i 0 % 16
def rowsF (z : List Int) (n : Nat) : List Row := (List.range n).map fun i => (5, List.replicate (sz z i).toNat 0)
theorem sz_b (z : List Int) (i : Nat) : 1 ≤ sz z i ∧ sz z i ≤ 16 := by unfold sz; omega
theorem rowsF_len (z : List Int) (n : Nat) : (rowsF z n).length = n := by simp [rowsF]
theorem rowsF_succ (z : List Int) (n : Nat) : rowsF z (n + 1) = rowsF z n ++ [(5, noughts (sz z n))] := by
  unfold rowsF noughts
  have := sz_b z n
  rw [List.range_succ, List.map_append, show (min (max (sz z n) 1) 16) = sz z n by omega]; rfl
theorem rowsF_at (z : List Int) {n i : Nat} (h : i < n) : (rowsF z n)[i]? = some (5, List.replicate (sz z i).toNat 0) := by simp [rowsF, h]
theorem repl_at {m j : Nat} (h : j < m) : (List.replicate m (0 : Int))[j]? = some 0 := by rw [List.getElem?_replicate, if_pos h]
theorem rowsF_get (z : List Int) {n i j : Nat} (h : i < n) (hj : (j : Int) < sz z i) : getT (rowsF z n) i j = (0, true) :=
  get_yes (rowsF_at z h) (repl_at (by omega))
/-- The rows behind the Set of one value. -/
theorem rowsF_set (z : List Int) {n k j : Nat} (v : Int) (h : k < n) (hj : (j : Int) < sz z k) (hv : -2147483648 ≤ v ∧ v ≤ 2147483647) :
    setT (rowsF z n) k j v = (rowsF z n).set k (5, (List.replicate (sz z k).toNat 0).set j v) := by
  have hw : wrapF 5 v = v := by unfold wrapF; simp <;> omega
  unfold setT
  rw [rowsF_get z h hj, if_pos rfl, Int.toNat_natCast, rowsF_at z h]
  simp only [Int.toNat_natCast, hw]
theorem rowsF_set_get (z : List Int) {n k j i l : Nat} (v : Int) (h : i < n) (hl : (l : Int) < sz z i) :
    getT ((rowsF z n).set k (5, (List.replicate (sz z k).toNat 0).set j v)) i l = (if i = k ∧ l = j then v else 0, true) := by
  by_cases hik : i = k
  · subst hik
    refine get_yes (x := (5, (List.replicate (sz z i).toNat 0).set j v)) (by simp [rowsF_len, h]) ?_
    rw [List.getElem?_set, List.length_replicate]
    by_cases hlj : j = l
    · subst hlj; rw [if_pos rfl, if_pos (by omega)]; simp
    · rw [if_neg hlj, if_neg (by omega)]; exact repl_at (by omega)
  · refine get_yes (x := (5, List.replicate (sz z i).toNat 0)) ?_ ?_
    · rw [List.getElem?_set_ne (fun e => hik e.symm)]; exact rowsF_at z h
    · rw [if_neg (fun e => hik e.1)]; exact repl_at (by omega)
end Go.Proofs.Ythjnkjekidagiaa.Mem
namespace Go.Proofs.Ythjnkjekidagiaa.Mem
open Go.RowKit

def blkR (T : List Row) (id : Int) : Bool × Int × List Int :=
  if 0 ≤ id then match T[id.toNat]? with
    | some x => (true, x.1, x.2)
    | none => (false, 0, [])
  else (false, 0, [])
theorem blkR_tv (L : List Bk) (id : Int) : blkR (L.map tv) id = (blkIn L id, blkT L id, blkV L id) := by
  rw [blkIn_tv, blkT_tv, blkV_tv]
  unfold blkR
  by_cases h : 0 ≤ id
  · by_cases h2 : id < L.length
    · have h3 : id.toNat < L.length := by omega
      simp [h, h2, h3, tv]
    · simp [h, h2]
  · simp [h]
/-- All rows have from 1 to 16 values. -/
def Small (T : List Row) : Prop := ∀ x ∈ T, x.2.length ≤ 16
theorem Small.of {T : List Row} {L : List Bk} (h : Small T) (hT : L.map tv = T) : ∀ x ∈ L, x.vals.length ≤ 16 := fun x hx => h (tv x) (by rw [← hT]; exact List.mem_map_of_mem hx)
theorem Small.nil : Small [] := by intro x hx; cases hx
theorem Small.add {T : List Row} (h : Small T) (t size : Int) : Small (T ++ [(t, noughts size)]) := by
  intro x hx
  rw [List.mem_append, List.mem_singleton] at hx
  rcases hx with hx | rfl
  · exact h x hx
  · exact (noughts_len size).2
theorem Small.set {T : List Row} (h : Small T) (id at_ v : Int) : Small (setT T id at_ v) := by
  unfold setT
  split
  · split
    · rename_i x hx
      intro y hy
      rcases List.mem_or_eq_of_mem_set hy with hy | rfl
      · exact h y hy
      · simpa using h x (List.mem_of_getElem? hx)
    · exact h
  · exact h
theorem Small.take {T : List Row} (h : Small T) (n : Nat) : Small (T.take n) := fun x hx => h x (List.mem_of_mem_take hx)
theorem rowsF_small (z : List Int) (n : Nat) : Small (rowsF z n) := by
  intro x hx
  unfold rowsF at hx
  obtain ⟨i, -, rfl⟩ := List.mem_map.1 hx
  have := sz_b z i
  simp; omega
theorem add_rows {B : Nat} {w : World} {p : Nat} {v : Value} {L : List Bk} {T : List Row} (h : MemAt B 64 w p v L) (hT : L.map tv = T) (hl : T.length ≤ 100000) (hB : B ≤ w.heap.size) (t size : Int) (hs : -9223372036854775808 ≤ size ∧ size ≤ 9223372036854775807) :
    Calls Try.prog 13 #[.pointer (some ⟨p, 0, none⟩), .int .i64 t, .int .i64 size] w fun e w' => e = .returned (.int .i64 T.length) ∧ Hid (∃ v' L', MemAt B 64 w' p v' L' ∧ L'.map tv = T ++ [(t, noughts size)] ∧ Chg (fun k => k = p ∨ v.ownBlock = some k) w w') := by
  have e : L.length = T.length := by rw [← hT]; simp
  refine (add_any h (by omega) hB t size hs).mono ?_
  rintro _ w' ⟨rfl, H⟩
  obtain ⟨v', g, h1, h2, h3, h4⟩ := H.out
  exact ⟨by rw [e], Lib.hid ⟨v', _, h2, by rw [List.map_append, hT]; rfl, h3⟩⟩
theorem get_rows {B : Nat} {w : World} {p : Nat} {v : Value} {L : List Bk} {T : List Row} (h : MemAt B 64 w p v L) (hT : L.map tv = T) {id at_ x : Int} {b : Bool} (hx : getT T id at_ = (x, b)) :
    Calls Try.prog 101 #[.pointer (some ⟨p, 0, none⟩), .int .i64 id, .int .i64 at_] w fun e w' => e = .returned (.tuple #[.int .i64 x, .bool b]) ∧ w = w' := by
  have := get_any h id at_
  rw [getV_tv, hT, hx] at this
  exact this
theorem set_rows {B : Nat} {w : World} {p : Nat} {v : Value} {L : List Bk} {T : List Row} (h : MemAt B 64 w p v L) (hT : L.map tv = T) {id at_ n : Int} {b : Bool} (hb : (getT T id at_).2 = b) :
    Calls Try.prog 15 #[.pointer (some ⟨p, 0, none⟩), .int .i64 id, .int .i64 at_, .int .i64 n] w fun e w' => e = .returned (.bool b) ∧ Hid (∃ L', MemAt B 64 w' p v L' ∧ L'.map tv = setT T id at_ n ∧ Chg (fun k => ∃ x ∈ L, k = x.g) w w') := by
  refine (set_any h id at_ n).mono ?_
  rintro _ w' ⟨rfl, h1, h2⟩
  refine ⟨by rw [setOk_tv, hT, hb], Lib.hid ⟨_, h1, ?_, h2⟩⟩
  rw [setL_tv, hT]
theorem set_none {B : Nat} {w : World} {p : Nat} {v : Value} {L : List Bk} {T : List Row} (h : MemAt B 64 w p v L) (hT : L.map tv = T) {id at_ : Int} (n : Int) {x : Int} (hb : getT T id at_ = (x, false)) :
    Calls Try.prog 15 #[.pointer (some ⟨p, 0, none⟩), .int .i64 id, .int .i64 at_, .int .i64 n] w fun e w' => e = .returned (.bool false) ∧ w = w' :=
  set_no h n (by rw [setOk_tv, hT, hb])
/-- A memory that stands apart from what was changed. -/
theorem MemAt.apart {B : Nat} {tM : TypeId} {S : Nat → Prop} {w w' : World} {p : Nat} {v : Value} {L : List Bk} (h : MemAt B tM w p v L) (hc : Chg S w w') (hS : ∀ k, S k → k < B) : MemAt B tM w' p v L :=
  h.chg hc (fun hs => by have := hS _ hs; have := h.lo; omega) (fun g hg hs => by have := hS _ hs; have := own_base h.row hg; omega) (fun x hx hs => by have := hS _ hs; have := (h.inn x hx).lo; omega)
theorem block_rows {B : Nat} {w : World} {p : Nat} {v : Value} {L : List Bk} {T : List Row} (h : MemAt B 64 w p v L) (hT : L.map tv = T) (hS : Small T) {id t : Int} {b : Bool} {l : List Int} (hb : blkR T id = (b, t, l)) :
    Calls Try.prog 37 #[.pointer (some ⟨p, 0, none⟩), .int .i64 id] w fun e w' => ∃ vs, e = .returned (.tuple #[.agg #[.int .i64 t, vs], .bool b]) ∧ Hid (Kept w w' ∧ w'.ownsRow w.heap.size 3 1 vs l.length (ints l)) := by
  have := block_any h (hS.of hT) id
  rw [← hT, blkR_tv] at hb
  injection hb with h1 h2
  injection h2 with h2 h3
  rw [h1, h2, h3] at this
  exact this
theorem copy_rows {B : Nat} {w : World} {p : Nat} {v : Value} {L : List Bk} {T : List Row} (h : MemAt B 64 w p v L) (hT : L.map tv = T) (hl : T.length ≤ 100000) (hS : Small T) :
    Calls Try.prog 14 #[.pointer (some ⟨p, 0, none⟩)] w fun e w' => ∃ q, e = .returned (.pointer (some ⟨q, 0, none⟩)) ∧ Hid (Kept w w' ∧ ∃ v' K, MemAt w.heap.size 64 w' q v' K ∧ K.map tv = T) := by
  have e : L.length = T.length := by rw [← hT]; simp
  have := copy_any h (by omega) (hS.of hT)
  rw [hT] at this
  exact this
theorem len_rows {B : Nat} {w : World} {p : Nat} {v : Value} {L : List Bk} {T : List Row} (h : MemAt B 64 w p v L) (hT : L.map tv = T) :
    Calls Try.prog 21 #[.pointer (some ⟨p, 0, none⟩)] w fun e w' => e = .returned (.int .i64 T.length) ∧ w = w' := by
  have := len_any h
  have e : L.length = T.length := by rw [← hT]; simp
  rw [e] at this
  exact this
end Go.Proofs.Ythjnkjekidagiaa.Mem
namespace Go.Proofs.Ythjnkjekidagiaa.Mem
open Go.RowKit

theorem setCells_heap (b : Nat) (t : TypeId) : ∀ (zs : List Value) (o : Nat) (w : World) (cur : Array Value), w.heap[b]? = some (.cells cur t (0, 0)) →
    Chg (fun k => k = b) w (w.setCells b o zs) ∧ ∃ cur', (w.setCells b o zs).heap[b]? = some (.cells cur' t (0, 0)) ∧ cur'.size = cur.size ∧ cur'.toList.take o = cur.toList.take o
  | [], o, w, cur, h => ⟨Chg.refl _ _, cur, h, rfl, rfl⟩
  | v :: r, o, w, cur, h => by
    obtain ⟨h1, cur', h2, h3, h4⟩ := setCells_heap b t r (o + 1) (w.setCell ⟨b, o, none⟩ v) _ (heap_setCell_same _ _ o _ _ v h)
    refine ⟨(chg_set w b o v).then h1, cur', h2, by simpa using h3, ?_⟩
    have h5 := congrArg (List.take o) h4
    rw [List.take_take, List.take_take, Nat.min_eq_left (by omega), Array.toList_setIfInBounds, List.take_set_of_le (Nat.le_refl _)] at h5
    exact h5

theorem run_clear_blk (w : World) (b o n c : Nat) (hn : 0 < n) (cur : Array Value) (h : w.heap[b]? = some (.cells cur 62 (0, 0))) (hs : o + n * 2 ≤ cur.size) :
    ∃ zs, ∀ ty, (Builtin.clear_ #[53] ty #[.slice (some ⟨b, o, none⟩) n c]).run Try.prog w = .ok (.tuple #[]) (w.setCells b o zs) := by
  have h1 : ∀ j, j < (Builtin.zeroCells #[.int .i64 0, .slice none 0 0] n).toList.length → o + j < cur.size := fun j hj => by
    simp [Builtin.zeroCells] at hj; omega
  have hst := run_storeCells_cells (P := Try.prog) b o (Builtin.zeroCells #[.int .i64 0, .slice none 0 0] n).toList 0 w
    (fun j hj => by have := h1 j hj; simp [World.cell?, h, this]) (fun j hj => by simp [World.frozen?, h])
    (fun v hv => by
      simp [Builtin.zeroCells] at hv
      obtain ⟨i, -, rfl⟩ := hv
      rcases (show i % 2 = 0 ∨ i % 2 = 1 by omega) with e | e <;> simp [e, Value.oneCell'])
  simp only [Nat.add_zero] at hst
  obtain ⟨m, rfl⟩ : ∃ m, n = m + 1 := ⟨n - 1, by omega⟩
  refine ⟨(Builtin.zeroCells #[.int .i64 0, .slice none 0 0] (m + 1)).toList, fun ty => ?_⟩
  simp [Builtin.clear_, run_underlying Try.underlying53, Value.cells, hst]

set_option maxHeartbeats 4000000 in
set_option maxRecDepth 1000000 in
/-- Delete of all from i on. -/
theorem delete_any (w : World) (o n cap i : Nat) (cur : Array Value) (h : w.heap[o]? = some (.cells cur 62 (0, 0))) (hs : cur.size = cap * 2) (hn : n ≤ cap) (hm : cap ≤ maxLen) (hi : i < n) :
    Calls Try.prog 22 #[.slice (some ⟨o, 0, none⟩) n cap, .int .i64 i, .int .i64 n] w fun e w' => e = .returned (.slice (some ⟨o, 0, none⟩) i cap) ∧ Hid (Chg (fun k => k = o) w w' ∧ ∃ cur', w'.heap[o]? = some (.cells cur' 62 (0, 0)) ∧ cur'.size = cap * 2 ∧ cur'.toList.take (i * 2) = cur.toList.take (i * 2)) := by
  obtain ⟨i0, hi0, hz0, hz1, hz2⟩ := info_parts blk_info
  have hm' : cap ≤ 9223372036854775807 := by simp only [maxLen] at hm; omega
  clear hz0 hz2 hm
  obtain ⟨zs, hcl⟩ := run_clear_blk w.drew o (i * 2) (n - i) (cap - i) (by omega) cur h (by omega)
  obtain ⟨A, hA⟩ : ∃ A : Addr, (if cap = n then some (⟨o, 0, none⟩ : Addr) else some ⟨o, n * 2, none⟩) = some A := by split <;> exact ⟨_, rfl⟩
  have HF := Lib.hid (setCells_heap o 62 zs (i * 2) w.drew cur h)
  have hne : i ≠ n := by omega
  have hic : i ≤ cap := by omega
  have H := Lib.hid h
  clear h
  go_enter Try.func22, Try.ntmps22
  go_wp2_with fail
  go_region_law (refine step_append_room rfl (.tmp 22) (.tmp 25) 53 rfl 62 i0 2 Try.underlying53 hi0 hz1 o 0 i cap (by simp [Act.eval, Act.put]) A 0 (cap - n) [] (by simp [Act.eval, Act.put]) rfl (by intro j u hj; simp at hj) (by intro u hu; cases hu) (by omega) (by intro j hj; simp at hj) ?_; rw [World.setCells])
  all_goals
    go_wp2
    go_ret
    obtain ⟨h1, cur', h2, h3, h4⟩ := HF.out
    exact ⟨rfl, Lib.hid ⟨((Chg.refl _ w).drew).then h1, cur', h2, by omega, h4⟩⟩

/-- The list is cut behind its first i blocks: they are as they were. -/
theorem MemAt.cut {B : Nat} {tM : TypeId} {w w1 : World} {p o cap i : Nat} {L : List Bk} (h : MemAt B tM w p (.slice (some ⟨o, 0, none⟩) L.length cap) L) (hM : tM ≠ 62) (hM' : tM ≠ 3) (hi : i < L.length)
    (hc : Chg (fun k => k = o) w w1) {cur cur' : Array Value} (h0 : w.heap[o]? = some (.cells cur 62 (0, 0))) (h1 : w1.heap[o]? = some (.cells cur' 62 (0, 0))) (hs : cur'.size = cap * 2) (ht : cur'.toList.take (i * 2) = cur.toList.take (i * 2)) :
    MemAt B tM (w1.setCell ⟨p, 0, none⟩ (.slice (some ⟨o, 0, none⟩) i cap)) p (.slice (some ⟨o, 0, none⟩) i cap) (L.take i) ∧ Chg (fun k => k = p ∨ k = o) w (w1.setCell ⟨p, 0, none⟩ (.slice (some ⟨o, 0, none⟩) i cap)) := by
  have hpo : p ≠ o := fun e => ne_of_ty h.box h0 hM e
  have hcc : Chg (fun k => k = p ∨ k = o) w (w1.setCell ⟨p, 0, none⟩ (.slice (some ⟨o, 0, none⟩) i cap)) := (hc.mono (fun k _ e => .inr e)).setCell (fun _ => .inl rfl) _
  have hp1 : w1.heap[p]? = some (.cells #[.slice (some ⟨o, 0, none⟩) L.length cap] tM (0, 0)) := hc.heap h.box hpo
  have hlen : (L.take i).length = i := by rw [List.length_take]; omega
  have hb : o ≥ B ∧ cap ≤ maxLen ∧ L.length ≤ cap ∧ cur.toList.take (L.length * 2) = bkCells L := by
    rcases h.row.2 with ⟨e, _⟩ | ⟨g, cp, c, e, g1, g2, g3, g4, g5, g6⟩
    · cases e
    · injection e with e1 e2 e3; injection e1 with e1; injection e1 with e1; subst e1; subst e3
      rw [h0] at g2; injection g2 with g2; injection g2 with g2; subst g2
      exact ⟨g1, g4, g3, g6⟩
  have htk : ∀ (L : List Bk) (i : Nat), bkCells (L.take i) = (bkCells L).take (i * 2) := by
    intro L
    induction L with
    | nil => intro i; simp [bkCells]
    | cons x L ih =>
      intro i
      cases i with
      | zero => simp [bkCells]
      | succ i =>
        have e : ∀ M, bkCells (x :: M) = bkCell x ++ bkCells M := fun M => by simp [bkCells]
        rw [List.take_succ_cons, e, e, ih, List.take_append]
        simp [bkCell, show (i + 1) * 2 - 2 = i * 2 by omega]
        rw [show (i + 1) * 2 = i * 2 + 1 + 1 by omega, List.take_succ_cons, List.take_succ_cons, List.take_nil]; rfl
  refine ⟨⟨h.lo, ?_, ?_, ?_, ?_, ?_⟩, hcc⟩
  · simpa using heap_setCell_same _ _ 0 _ _ (.slice (some ⟨o, 0, none⟩) i cap) hp1
  · rw [hlen]
    refine ⟨by rw [bkCells_length, hlen], .inr ⟨o, cap, cur', rfl, hb.1, ?_, by omega, hb.2.1, hs, ?_⟩⟩
    · rw [Below.heap_setCell _ _ _ _ (fun e => hpo e.symm)]; exact h1
    · rw [ht, htk, ← hb.2.2.2, List.take_take, Nat.min_eq_left (by omega)]
  · intro x hx
    refine (h.inn x (List.mem_of_mem_take hx)).chg hcc fun e => ?_
    obtain ⟨c, g1, -⟩ := (h.inn x (List.mem_of_mem_take hx)).cells
    rcases e with e | e
    · exact ne_of_ty g1 h.box (Ne.symm hM') e
    · exact ne_of_ty g1 h0 (by decide) e
  · rw [List.map_take]; exact h.sep.sublist (List.take_sublist _ _)
  · intro x hx; exact h.pos x (List.mem_of_mem_take hx)

set_option maxHeartbeats 4000000 in
set_option maxRecDepth 100000 in
theorem cut_any {B : Nat} {w : World} {p : Nat} {v : Value} {L : List Bk} (h : MemAt B 64 w p v L) (n : Int) :
    Calls Try.prog 8 #[.pointer (some ⟨p, 0, none⟩), .int .i64 n] w fun e w' => e = .returned (.tuple #[]) ∧ Hid (∃ v', MemAt B 64 w' p v' (L.take n.toNat) ∧ Chg (fun k => k = p ∨ v.ownBlock = some k) w w' ∧ v'.ownBlock = v.ownBlock) := by
  have HL := Lib.hid (len_any h)
  obtain ⟨m, hm, hm0⟩ : ∃ m : Nat, (if n < 0 then 0 else n) = (m : Int) ∧ m = n.toNat := ⟨n.toNat, by split <;> omega, rfl⟩
  have hmm : max n 0 = (m : Int) := by omega
  by_cases hlt : m < L.length
  case neg =>
    have e : L.take n.toNat = L := List.take_of_length_le (by omega)
    rw [e]
    have H := Lib.hid h
    clear h e hm0
    have hlt' : ¬ ((m : Int) < (L.length : Int)) := by omega
    go_enter Try.func8, Try.ntmps8
    go_wp2_with (first | (go_at_call 21; refine HL.out.mono ?_; rintro e w' ⟨rfl, rfl⟩))
    exact bodyPost_end (results_none rfl _ _ _) rfl ⟨rfl, Lib.hid ⟨v, H.out, Chg.refl _ _, rfl⟩⟩
  rcases h.out with ⟨rfl, -⟩ | ⟨o, cap, cur, rfl, ho, hc, hmx, hcell⟩
  · simp at hlt
  have hcs : cur.size = cap * 2 := by
    rcases h.row.2 with ⟨e, _⟩ | ⟨g, cp, c, e, g1, g2, g3, g4, g5, g6⟩
    · cases e
    · injection e with e1 e2 e3; injection e1 with e1; injection e1 with e1; subst e1; subst e3
      rw [ho] at g2; injection g2 with g2; injection g2 with g2; subst g2
      exact g5
  have HD := Lib.hid (fun (W : World) (hW : W.heap[o]? = some (.cells cur 62 (0, 0))) => delete_any W o L.length cap m cur hW hcs hc hmx hlt)
  have H := Lib.hid h
  have Ho := Lib.hid ho
  have c0 := box_cell h.box 0 _ rfl
  have f0 := box_froz h.box 0
  have hpo : p ≠ o := fun e => ne_of_ty h.box ho (by decide) e
  have Hp := Lib.hid h.box
  rw [← hm0]
  clear h ho hcell hcs hm0
  go_enter Try.func8, Try.ntmps8
  go_wp2_with (first | (go_at_call 21; refine HL.out.mono ?_; rintro e w' ⟨rfl, rfl⟩))
  have HL2 := Lib.hid (len_any (H.out.drew))
  go_region_with (first | (go_at_call 21; refine HL2.out.mono ?_; rintro e w' ⟨rfl, rfl⟩) | (go_at_call 22; refine (HD.out _ (by exact Ho.out)).mono ?_; rintro e w1 ⟨rfl, H1⟩; have hb := H1.out.1.heap Hp.out hpo; have c1 := box_cell hb 0 _ rfl; have f1 := box_froz hb 0; clear hb))
  all_goals
    go_wp2
    obtain ⟨h1, cur', h2, h3, h4⟩ := H1.out
    have hf := H.out.cut (by decide) (by decide) hlt (((Chg.refl _ w).drew).then h1) Ho.out h2 h3 h4
    refine bodyPost_end (results_none rfl _ _ _) rfl ⟨rfl, Lib.hid ⟨_, hf.1, hf.2.mono fun k _ hk => ?_, rfl⟩⟩
    rcases hk with hk | hk
    · exact .inl hk
    · exact .inr (by simp [Value.ownBlock, hk])
end Go.Proofs.Ythjnkjekidagiaa.Mem
namespace Go.Proofs.Ythjnkjekidagiaa.Mem
open Go.RowKit

/-- Another list of the first blocks is put in the place of the old one. -/
theorem MemAt.put {B : Nat} {tM : TypeId} {w w1 : World} {p g cap m : Nat} {v : Value} {L : List Bk} (h : MemAt B tM w p v L) (hM' : tM ≠ 3) (hm : m ≤ L.length) (hk : Kept w w1) {C : Nat} (hC : w.heap.size ≤ C) (hB : B ≤ w.heap.size)
    (hr : w1.ownsRow C 62 2 (.slice (some ⟨g, 0, none⟩) m cap) m (bkCells (L.take m))) :
    MemAt B tM (w1.setCell ⟨p, 0, none⟩ (.slice (some ⟨g, 0, none⟩) m cap)) p (.slice (some ⟨g, 0, none⟩) m cap) (L.take m) ∧ Chg (fun k => k = p) w (w1.setCell ⟨p, 0, none⟩ (.slice (some ⟨g, 0, none⟩) m cap)) ∧ w.heap.size ≤ g := by
  have hcc : Chg (fun k => k = p) w (w1.setCell ⟨p, 0, none⟩ (.slice (some ⟨g, 0, none⟩) m cap)) := (Chg.of_kept (S := fun k => k = p) hk).setCell (fun _ => rfl) _
  have hp1 := Kept.heap hk h.box
  have hlen : (L.take m).length = m := by rw [List.length_take]; omega
  have hg := own_base hr (g := g) rfl
  have hps := box_lt h.box
  have hr' := own_chg hr (chg_set w1 p 0 (.slice (some ⟨g, 0, none⟩) m cap)) (fun k hk' e => by simp [Value.ownBlock] at hk'; omega)
  refine ⟨⟨h.lo, ?_, ?_, ?_, ?_, ?_⟩, hcc, by omega⟩
  · simpa using heap_setCell_same _ _ 0 _ _ (.slice (some ⟨g, 0, none⟩) m cap) hp1
  · rw [hlen]
    refine ⟨hr'.1, ?_⟩
    rcases hr'.2 with h2 | ⟨g', cp, c, h0, h1, h2⟩
    · exact .inl h2
    · exact .inr ⟨g', cp, c, h0, by omega, h2⟩
  · intro x hx
    refine (h.inn x (List.mem_of_mem_take hx)).chg hcc fun e => ?_
    obtain ⟨c, g1, -⟩ := (h.inn x (List.mem_of_mem_take hx)).cells
    exact ne_of_ty g1 h.box (Ne.symm hM') e
  · rw [List.map_take]; exact h.sep.sublist (List.take_sublist _ _)
  · intro x hx; exact h.pos x (List.mem_of_mem_take hx)
theorem bkCells_one (L : List Bk) : ∀ u ∈ bkCells L, u.oneCell' = true := by
  intro u hu
  unfold bkCells at hu
  obtain ⟨x, -, hx⟩ := List.mem_flatMap.1 hu
  simp [bkCell, bkVal] at hx
  rcases hx with rfl | rfl <;> rfl

set_option maxHeartbeats 4000000 in
set_option maxRecDepth 100000 in
theorem rcut_any {B : Nat} {w : World} {p : Nat} {v : Value} {L : List Bk} (h : MemAt B 55 w p v L) (hl : L.length ≤ 100000) (hB : B ≤ w.heap.size) (n : Int) :
    Calls Try.prog 9 #[.pointer (some ⟨p, 0, none⟩), .int .i64 n] w fun e w' => e = .returned (.tuple #[]) ∧ Hid (∃ v', MemAt B 55 w' p v' (L.take n.toNat) ∧ Chg (fun k => k = p) w w' ∧ ∃ g, v'.ownBlock = some g ∧ w.heap.size ≤ g) := by
  obtain ⟨m, hm, hmL, hm0⟩ : ∃ m : Nat, max 0 (min n (L.length : Int)) = (m : Int) ∧ m ≤ L.length ∧ L.take n.toNat = L.take m := by
    refine ⟨min n.toNat L.length, by omega, by omega, ?_⟩
    by_cases h : n.toNat ≤ L.length
    · rw [Nat.min_eq_left h]
    · rw [Nat.min_eq_right (by omega), List.take_of_length_le (by omega), List.take_of_length_le (by omega)]
  rw [hm0]
  have c0 := box_cell h.box 0 _ rfl
  have f0 := box_froz h.box 0
  have hps := box_lt h.box
  have H := Lib.hid h
  obtain ⟨i0, hi, hz0, hz1, hz2⟩ := info_parts blk_info
  rcases h.out with ⟨rfl, rfl⟩ | ⟨o, cap, cur, rfl, ho, hc, hmx, hcell⟩
  · obtain rfl : m = 0 := by simpa using hmL
    clear h
    simp at hm
    go_enter Try.func9, Try.ntmps9
    go_wp2
    have e0 := heap_setCell_same _ _ 0 _ _ (.slice (some ⟨w.heap.size, 0, none⟩) 0 0) H.out.box
    have e1 := Kept.heap ((Kept.refl _).alloc (.cells #[] 62)) e0
    have e2 := heap_alloc_new (w.setCell ⟨p, 0, none⟩ (.slice (some ⟨w.heap.size, 0, none⟩) 0 0)) (.cells #[] 62)
    rw [show (w.setCell ⟨p, 0, none⟩ (.slice (some ⟨w.heap.size, 0, none⟩) 0 0)).heap.size = w.heap.size by simp] at e2
    refine bodyPost_end (results_none rfl _ _ _) rfl ⟨rfl, Lib.hid ⟨.slice (some ⟨w.heap.size, 0, none⟩) 0 0, ⟨H.out.lo, by simpa using e1, ⟨rfl, .inr ⟨w.heap.size, 0, #[], rfl, hB, e2, by simp, by simp [maxLen], rfl, rfl⟩⟩, (by intro x hx; simp at hx), by simp, (by intro x hx; simp at hx)⟩, ?_, _, rfl, Nat.le_refl _⟩⟩
    exact (((Chg.refl (fun k => k = p) w).setCell (fun _ => rfl) _).alloc _)
  have hpre : ∀ j u, (bkCells (L.take m))[j]? = some u → w.cell? ⟨o, j, none⟩ = some u := by
    intro j u hj
    rcases h.row.2 with ⟨e, _⟩ | ⟨g, cp, c, e, g1, g2, g3, g4, g5, g6⟩
    · cases e
    · injection e with e1 e2 e3; injection e1 with e1; injection e1 with e1; subst e1
      have h5 : (bkCells L)[j]? = some u := by
        have hj' : j < m * 2 := by have := (List.getElem?_eq_some_iff.1 hj).1; rw [bkCells_length, List.length_take] at this; omega
        have e5 : bkCells L = bkCells (L.take m) ++ bkCells (L.drop m) := by
          conv => lhs; rw [← List.take_append_drop m L]
          simp only [bkCells, List.flatMap_append]
        rw [e5, List.getElem?_append_left (by rw [bkCells_length, List.length_take]; omega)]; exact hj
      rw [← g6, List.getElem?_take] at h5
      split at h5
      · simpa [World.cell?, g2] using h5
      · cases h5
  have HP := Lib.hid hpre
  clear h hcell hpre
  go_enter Try.func9, Try.ntmps9
  go_wp2_with (at_builtin; refine wpList_append_own _ rfl _ _ 53 rfl w.heap.size 62 i0 (.agg #[.int .i64 0, .slice none 0 0]) 2 32 Try.underlying53 hi hz0 hz1 hz2 rfl (by decide) _ _ _ rfl (World.ownsRow_made w #[] 0 (Nat.le_refl _) (Nat.zero_le _) rfl) ⟨o, 0, none⟩ m cap (bkCells (L.take m)) rfl ?qc1 ?qc2 ?qc3 ?qc4 ?qc5 ?qc6 ?_)
  case qc1 => rw [bkCells_length, List.length_take]; omega
  case qc2 =>
    intro j u hj
    rw [Addr.add_lit, Nat.zero_add]
    exact Lib.cell?_alloc_some _ (HP.out j u hj)
  case qc3 => exact bkCells_one _
  case qc4 => unfold maxLen; omega
  case qc5 => omega
  case qc6 => simp
  intro v' w1 hown hgrow hnil
  obtain ⟨g, cp, rfl, hg⟩ : ∃ g cap, v' = .slice (some ⟨g, 0, none⟩) m cap ∧ w.heap.size ≤ g := by
    rcases hown.2 with ⟨e, _⟩ | ⟨g, cap, c, e, h2, _⟩
    · exact absurd e hnil
    · exact ⟨g, cap, by simpa using e, h2⟩
  have hk : Kept w w1 := ((Below.refl _ w).alloc (Nat.le_refl _) _).grown hgrow (by simp) (by intro k hk; simp [Value.ownBlock] at hk; omega)
  have hf := H.out.put (by decide) hmL hk (Nat.le_refl _) hB hown
  have Hf := Lib.hid hf
  have hb := Kept.heap hk H.out.box
  have c1 := box_cell hb 0 _ rfl
  have f1 := box_froz hb 0
  clear hown hgrow hnil hf hb hk
  go_wp2
  exact bodyPost_end (results_none rfl _ _ _) rfl ⟨rfl, Lib.hid ⟨_, Hf.out.1, Hf.out.2.1, g, rfl, Hf.out.2.2⟩⟩
end Go.Proofs.Ythjnkjekidagiaa.Mem
namespace Go.Proofs.Ythjnkjekidagiaa.Mem
open Go.RowKit
open Typ (wrapF)

section
variable {B : Nat} {w : World} {p : Nat} {v : Value} {L : List Bk} {T : List Row}

theorem take_foot (n : Nat) {p : Nat} {v v' : Value} (hv : v'.ownBlock = v.ownBlock) {k : Nat} (hk : foot p v' (L.take n) k) : foot p v L k := by
  rcases hk with hk | hk | ⟨x, hx, rfl⟩
  · exact .inl hk
  · exact .inr (.inl (hv ▸ hk))
  · exact .inr (.inr ⟨x, List.mem_of_mem_take hx, rfl⟩)

theorem cut_go (h : MemAt B 64 w p v L) (hT : L.map tv = T) (n : Int) :
    Calls Try.prog 8 #[.pointer (some ⟨p, 0, none⟩), .int .i64 n] w fun e w' => e = .returned (.tuple #[]) ∧ Hid (Goes B 64 w w' p v L p (T.take n.toNat)) := by
  refine (cut_any h n).mono ?_
  rintro _ w' ⟨rfl, H⟩
  obtain ⟨v', h1, h2, h3⟩ := H.out
  exact ⟨rfl, Lib.hid ⟨_, _, h1, by rw [List.map_take, hT], h2.mono fun k _ hk => hk.elim .inl fun e => .inr (.inl e), fun k hk => .inl (take_foot _ h3 hk)⟩⟩
theorem rcut_go (h : MemAt B 55 w p v L) (hT : L.map tv = T) (hl : T.length ≤ 100000) (hB : B ≤ w.heap.size) (n : Int) :
    Calls Try.prog 9 #[.pointer (some ⟨p, 0, none⟩), .int .i64 n] w fun e w' => e = .returned (.tuple #[]) ∧ Hid (Goes B 55 w w' p v L p (T.take n.toNat)) := by
  have e : L.length = T.length := by rw [← hT]; simp
  refine (rcut_any h (by omega) hB n).mono ?_
  rintro _ w' ⟨rfl, H⟩
  obtain ⟨v', h1, h2, g, h3, h4⟩ := H.out
  refine ⟨rfl, Lib.hid ⟨_, _, h1, by rw [List.map_take, hT], h2.mono fun k _ hk => .inl hk, fun k hk => ?_⟩⟩
  rcases hk with hk | hk | ⟨x, hx, rfl⟩
  · exact .inl (.inl hk)
  · rw [h3] at hk; injection hk with hk; exact .inr (by omega)
  · exact .inl (.inr (.inr ⟨x, List.mem_of_mem_take hx, rfl⟩))
theorem copy_go (h : MemAt B 64 w p v L) (hT : L.map tv = T) (hl : T.length ≤ 100000) (hS : Small T) (hB : B ≤ w.heap.size) :
    Calls Try.prog 14 #[.pointer (some ⟨p, 0, none⟩)] w fun e w' => ∃ q, e = .returned (.pointer (some ⟨q, 0, none⟩)) ∧ Hid (Goes B 64 w w' p v L q T) := by
  refine (copy_rows h hT hl hS).mono ?_
  rintro _ w' ⟨q, rfl, H⟩
  obtain ⟨h1, v', K, h2, h3⟩ := H.out
  exact ⟨q, rfl, Lib.hid ⟨v', K, h2.low hB, h3, Chg.of_kept h1, fun k hk => .inr (h2.foot_le hk)⟩⟩
theorem rget_rows (h : MemAt B 55 w p v L) (hT : L.map tv = T) (id at_ : Int) :
    Calls Try.prog 35 #[.pointer (some ⟨p, 0, none⟩), .int .i64 id, .int .i64 at_] w fun e w' => e = .returned (.tuple #[.int .i64 (getT T id at_).1, .bool (getT T id at_).2]) ∧ w = w' := by
  have := rget_any h id at_
  rw [getV_tv, hT] at this
  exact this
theorem rblock_rows (h : MemAt B 55 w p v L) (hT : L.map tv = T) (hS : Small T) {id t : Int} {b : Bool} {l : List Int} (hb : blkR T id = (b, t, l)) :
    Calls Try.prog 25 #[.pointer (some ⟨p, 0, none⟩), .int .i64 id] w fun e w' => ∃ vs, e = .returned (.tuple #[.agg #[.int .i64 t, vs], .bool b]) ∧ Hid (Kept w w' ∧ w'.ownsRow w.heap.size 3 1 vs l.length (ints l)) := by
  have := rblock_any h (hS.of hT) id
  rw [← hT, blkR_tv] at hb
  injection hb with h1 h2
  injection h2 with h2 h3
  rw [h1, h2, h3] at this
  exact this
end

section
variable {w0 w : World} {pm pr : Nat} {T T' : List Row}
theorem st_cut (h : St w0 w pm pr T T') (n : Int) :
    Calls Try.prog 8 #[.pointer (some ⟨pm, 0, none⟩), .int .i64 n] w fun e w' => e = .returned (.tuple #[]) ∧ Hid (St w0 w' pm pr (T.take n.toNat) T' ∧ Stays w w') := by
  obtain ⟨vm, vr, Lm, Lr, h2⟩ := h
  refine (cut_go h2.2.1 h2.2.2.1 n).mono ?_
  rintro _ w' ⟨rfl, H⟩
  exact ⟨rfl, Lib.hid ⟨h2.goM H.out, fun t b cs h1 h2' h3 h4 hb => (by obtain ⟨_, _, _, _, hc, _⟩ := H.out; exact hc.heap hb (h2.2.1.not_foot hb h1 h3 h4))⟩⟩
theorem st_rcut (h : St w0 w pm pr T T') (hl : T'.length ≤ 100000) (n : Int) :
    Calls Try.prog 9 #[.pointer (some ⟨pr, 0, none⟩), .int .i64 n] w fun e w' => e = .returned (.tuple #[]) ∧ Hid (St w0 w' pm pr T (T'.take n.toNat) ∧ Stays w w') := by
  obtain ⟨vm, vr, Lm, Lr, h2⟩ := h
  refine (rcut_go h2.2.2.2.1 h2.2.2.2.2.1 hl h2.1.size n).mono ?_
  rintro _ w' ⟨rfl, H⟩
  exact ⟨rfl, Lib.hid ⟨h2.goR H.out, fun t b cs h1 h2' h3 h4 hb => (by obtain ⟨_, _, _, _, hc, _⟩ := H.out; exact hc.heap hb (h2.2.2.2.1.not_foot hb h2' h3 h4))⟩⟩
theorem st_copy (h : St w0 w pm pr T T') (hl : T.length ≤ 100000) (hS : Small T) :
    Calls Try.prog 14 #[.pointer (some ⟨pm, 0, none⟩)] w fun e w' => ∃ q, e = .returned (.pointer (some ⟨q, 0, none⟩)) ∧ Hid (St w0 w' q pr T T' ∧ Stays w w') := by
  obtain ⟨vm, vr, Lm, Lr, h2⟩ := h
  refine (copy_go h2.2.1 h2.2.2.1 hl hS h2.1.size).mono ?_
  rintro _ w' ⟨q, rfl, H⟩
  exact ⟨q, rfl, Lib.hid ⟨h2.goM H.out, fun t b cs h1 h2' h3 h4 hb => (by obtain ⟨_, _, _, _, hc, _⟩ := H.out; exact hc.heap hb (h2.2.1.not_foot hb h1 h3 h4))⟩⟩
theorem st_get (h : St w0 w pm pr T T') (id at_ : Int) :
    Calls Try.prog 101 #[.pointer (some ⟨pm, 0, none⟩), .int .i64 id, .int .i64 at_] w fun e w' => e = .returned (.tuple #[.int .i64 (getT T id at_).1, .bool (getT T id at_).2]) ∧ w = w' := by
  obtain ⟨vm, vr, Lm, Lr, h2⟩ := h
  exact get_rows h2.2.1 h2.2.2.1 rfl
theorem st_rget (h : St w0 w pm pr T T') (id at_ : Int) :
    Calls Try.prog 35 #[.pointer (some ⟨pr, 0, none⟩), .int .i64 id, .int .i64 at_] w fun e w' => e = .returned (.tuple #[.int .i64 (getT T' id at_).1, .bool (getT T' id at_).2]) ∧ w = w' := by
  obtain ⟨vm, vr, Lm, Lr, h2⟩ := h
  exact rget_rows h2.2.2.2.1 h2.2.2.2.2.1 id at_
theorem st_len (h : St w0 w pm pr T T') :
    Calls Try.prog 21 #[.pointer (some ⟨pm, 0, none⟩)] w fun e w' => e = .returned (.int .i64 T.length) ∧ w = w' := by
  obtain ⟨vm, vr, Lm, Lr, h2⟩ := h
  exact len_rows h2.2.1 h2.2.2.1
theorem st_block (h : St w0 w pm pr T T') (hS : Small T) (id : Int) :
    Calls Try.prog 37 #[.pointer (some ⟨pm, 0, none⟩), .int .i64 id] w fun e w' => ∃ vs, e = .returned (.tuple #[.agg #[.int .i64 (blkR T id).2.1, vs], .bool (blkR T id).1]) ∧ Hid (Kept w w' ∧ w'.ownsRow w.heap.size 3 1 vs (blkR T id).2.2.length (ints (blkR T id).2.2)) := by
  obtain ⟨vm, vr, Lm, Lr, h2⟩ := h
  exact block_rows h2.2.1 h2.2.2.1 hS rfl
theorem st_rblock (h : St w0 w pm pr T T') (hS : Small T') (id : Int) :
    Calls Try.prog 25 #[.pointer (some ⟨pr, 0, none⟩), .int .i64 id] w fun e w' => ∃ vs, e = .returned (.tuple #[.agg #[.int .i64 (blkR T' id).2.1, vs], .bool (blkR T' id).1]) ∧ Hid (Kept w w' ∧ w'.ownsRow w.heap.size 3 1 vs (blkR T' id).2.2.length (ints (blkR T' id).2.2)) := by
  obtain ⟨vm, vr, Lm, Lr, h2⟩ := h
  exact rblock_rows h2.2.2.2.1 h2.2.2.2.2.1 hS rfl
/-- The document's list in its cells. -/
theorem st_list (h : St w0 w pm pr T T') : pr < w.heap.size ∧ ∃ a c, w.cell? ⟨pr, 0, none⟩ = some (.slice a T'.length c) := by
  obtain ⟨vm, vr, Lm, Lr, h2⟩ := h
  obtain ⟨a, c, e⟩ := h2.2.2.2.1.len
  have e2 : Lr.length = T'.length := by rw [← h2.2.2.2.2.1]; simp
  exact ⟨box_lt h2.2.2.2.1.box, a, c, by rw [← e2, ← e]; exact box_cell h2.2.2.2.1.box 0 _ rfl⟩
end
end Go.Proofs.Ythjnkjekidagiaa.Mem
