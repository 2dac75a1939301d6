/-
  Contracts of slices.Clone at []int, of package memory's twin, and of its method Block: a copy on values of its own. (Of a row that has a value.)
-/
import Derived.Test.YtkdfkibpoccmlaaMemJ
import Derived.Test.YtkdfkibpoccmlaaMemD
import Derived.Lib.SliceRun
import Derived.Lib.Walk
namespace Go.Proofs.Ytkdfkibpoccmlaa.Mem
open Go.RowKit

set_option maxHeartbeats 2000000 in
theorem clone_any {B : Nat} {w : World} {x : Bk} (h : Inn B w x) (hb : x.vals.length ≤ 16) :
    Calls Try.prog 31 #[bkVal x] w fun e w' => ∃ y : Bk, e = .returned (bkVal y) ∧ y.ty = x.ty ∧ y.vals = x.vals ∧ Hid (Inn w.heap.size w' y ∧ w.heap.size ≤ y.g ∧ Kept w w') := by
  obtain ⟨cur, g1, g2, g3, g4, g5⟩ := h.cells
  have A : Hid (∀ j (hj : j < x.vals.length), w.cell? ⟨x.g, j, none⟩ = some (.int .i64 x.vals[j])) := Lib.hid fun j hj => h.val j hj
  clear h g1 g4 g5
  obtain ⟨i0, hi, hz0, hz1, hz2⟩ := info_parts int_info'
  have q22 : ∀ (w : World) (a : Option Addr) (n c n' c' : Nat), (binOp .eql 38 (.slice a n c) (.slice none n' c')).run Try.prog w = .ok (.bool a.isNone) w := fun w a n c n' c' => Lib.run_eql_slice_nil w _ _ a n c n' c' Try.underlying38
  have u22 : ∀ w, Sem.run Try.prog (underlying 38) w = .ok (TypeDesc.slice 3) w := run_underlying Try.underlying38
  unfold bkVal
  go_enter Try.func31, Try.ntmps31
  go_wp2_with (at_builtin; refine wpList_append_own _ rfl _ _ 38 rfl w.heap.size 3 i0 (.int .i64 0) 1 8 Try.underlying38 hi hz0 hz1 hz2 rfl (by decide) _ _ _ rfl (World.ownsRow_made w #[] 0 (Nat.le_refl _) (Nat.zero_le _) rfl) ⟨x.g, 0, none⟩ x.vals.length x.c (ints x.vals) rfl ?qc1 ?qc2 ?qc3 ?qc4 ?qc5 ?qc6 ?_)
  case qc1 => simp [ints]
  case qc2 =>
    intro j u hj
    have hjn : j < x.vals.length := by simpa [ints] using (List.getElem?_eq_some_iff.1 hj).1
    rw [Addr.add_lit, Nat.zero_add]
    refine Lib.cell?_alloc_some _ ?_
    rw [A.out j hjn]
    simpa [ints, hjn] using hj
  case qc3 => intro u hu; obtain ⟨x, _, rfl⟩ := List.mem_map.1 hu; rfl
  case qc4 => unfold maxLen; omega
  case qc5 => omega
  case qc6 => simp
  intro v' w1 hown hgrow hnil
  obtain ⟨g, cap, rfl, hg⟩ : ∃ g cap, v' = .slice (some ⟨g, 0, none⟩) x.vals.length cap ∧ w.heap.size ≤ g := by
    rcases hown.2 with ⟨e, _⟩ | ⟨g, cap, c, e, h2, _⟩
    · exact absurd e hnil
    · exact ⟨g, cap, e, h2⟩
  have Ho := Lib.hid hown
  have Hg := Lib.hid hgrow
  clear hown hgrow hnil
  go_wp2
  go_ret
  exact ⟨⟨g, cap, x.ty, x.vals⟩, rfl, rfl, rfl, Lib.hid ⟨Ho.out, hg, ((Below.refl _ w).alloc (Nat.le_refl _) _).grown Hg.out (by simp) (by intro k hk; simp [Value.ownBlock] at hk; omega)⟩⟩

theorem two_boxes (w : World) (a b c d : Value) (t u : TypeId) :
    ((w.alloc (.cells #[a, b] t)).alloc (.cells #[c, d] u)).heap[w.heap.size]? = some (.cells #[a, b] t (0, 0)) ∧ ((w.alloc (.cells #[a, b] t)).alloc (.cells #[c, d] u)).heap[w.heap.size + 1]? = some (.cells #[c, d] u (0, 0)) := by
  constructor
  · rw [Below.heap_alloc _ _ _ (by simp)]; exact heap_alloc_new _ _
  · have := heap_alloc_new (w.alloc (.cells #[a, b] t)) (.cells #[c, d] u)
    simpa using this
theorem Kept.heap {a b : World} (h : Kept a b) {k : Nat} {o : Obj} (hk : a.heap[k]? = some o) : b.heap[k]? = some o := (h.block k (box_lt hk)).trans hk
theorem two_set {w : World} {b : Nat} {u v : Value} {t : TypeId} (h : w.heap[b]? = some (.cells #[u, v] t (0, 0))) (x y : Value) :
    ((w.setCell ⟨b, 0, none⟩ x).setCell ⟨b, 1, none⟩ y).heap[b]? = some (.cells #[x, y] t (0, 0)) := by
  have e1 := heap_setCell_same _ _ 0 _ _ x h
  have e2 := heap_setCell_same _ _ 1 _ _ y e1
  simpa using e2
theorem Inn.far {B : Nat} {w : World} {y : Bk} (h : Inn B w y) (p : Addr) (u : Value) (hn : p.block ≠ y.g) : Inn B (w.setCell p u) y :=
  h.chg (S := fun k => k = p.block) ((Chg.refl (fun k => k = p.block) w).setCell (fun _ => rfl) _) (fun e => hn e.symm)
theorem Inn.low {B C : Nat} {w : World} {y : Bk} (h : Inn B w y) (hc : C ≤ B) : Inn C w y := by
  refine ⟨h.1, ?_⟩
  rcases h.2 with h2 | ⟨g, cap, c, h0, h1, h2⟩
  · exact .inl h2
  · exact .inr ⟨g, cap, c, h0, Nat.le_trans hc h1, h2⟩

set_option maxHeartbeats 2000000 in
theorem twin_any {B : Nat} {w : World} {x : Bk} (h : Inn B w x) (hb : x.vals.length ≤ 16) :
    Calls Try.prog 26 #[.agg #[.int .i64 x.ty, bkVal x]] w fun e w' => ∃ y : Bk, e = .returned (.agg #[.int .i64 x.ty, bkVal y]) ∧ y.ty = x.ty ∧ y.vals = x.vals ∧ Hid (Inn w.heap.size w' y ∧ w.heap.size ≤ y.g ∧ Kept w w') := by
  have HC : Hid (∀ W, Kept w W → Calls Try.prog 31 #[bkVal x] W fun e w' => ∃ y : Bk, e = .returned (bkVal y) ∧ y.ty = x.ty ∧ y.vals = x.vals ∧ Hid (Inn W.heap.size w' y ∧ W.heap.size ≤ y.g ∧ Kept W w')) := Lib.hid fun W hk => clone_any (h.chg (S := fun _ => False) (Chg.of_kept hk) id) hb
  obtain ⟨p, n, c, hv⟩ : ∃ p n c, bkVal x = .slice p n c := ⟨_, _, _, rfl⟩
  rw [hv] at HC ⊢
  have H2 := Lib.hid (two_boxes w (.int .i64 x.ty) (.slice p n c) (.int .i64 0) (.slice none 0 0) 40 40)
  clear h
  go_enter Try.func26, Try.ntmps26
  go_wp2
  go_region_with (go_at_call 31; refine (HC.out _ (by repeat (first | exact Kept.refl _ | apply Kept.drew | apply Kept.alloc))).mono ?_; rintro e wx ⟨y, rfl, hy1, hy2, hy3⟩; have Hy := Lib.hid (And.intro hy1 (And.intro hy2 hy3.out)); have q1 := Kept.heap hy3.out.2.2 H2.out.1; have q2 := Kept.heap hy3.out.2.2 H2.out.2; have z0 := box_cell q1 0 _ rfl; have z1 := box_cell q1 1 _ rfl; have y0 := box_cell q2 0 _ rfl; have y1 := box_cell q2 1 _ rfl; have f0 := box_froz q2 0; have f1 := box_froz q2 1; have Q2 := Lib.hid q2; clear hy1 hy2 hy3 q1 q2; unfold bkVal)
  all_goals
    go_wp2
    have hy := Hy.out
    have q3 := two_set Q2.out (.int .i64 x.ty) (.slice (some ⟨y.g, 0, none⟩) y.vals.length y.c)
    have h0 := box_cell q3 0 _ rfl
    have h1 := box_cell q3 1 _ rfl
    have hg : w.heap.size + 2 ≤ y.g := by simpa using hy.2.2.2.1
    refine bodyPost_ret (v := .agg #[.int .i64 x.ty, bkVal y]) ?_ rfl ⟨y, rfl, hy.1, hy.2.1, Lib.hid ⟨?_, by omega, ?_⟩⟩
    · simp [results, Try.results26, go_sem, h0, h1, bkVal]
    · exact ((hy.2.2.1.low (by simp; omega)).far _ _ (by simp; omega)).far _ _ (by simp; omega)
    · exact ((((((Kept.refl w).alloc _).alloc _).drew.trans hy.2.2.2.2).setCell (by simp) _).setCell (by simp) _)

set_option maxHeartbeats 2000000 in
theorem block_any {B : Nat} {w : World} {p : Nat} {v : Value} {L : List Bk} (h : MemAt B 51 w p v L) (hb : ∀ x ∈ L, x.vals.length ≤ 16) (id : Int) :
    Calls Try.prog 19 #[.pointer (some ⟨p, 0, none⟩), .int .i64 id] w fun e w' => ∃ vs, e = .returned (.tuple #[.agg #[.int .i64 (blkT L id), vs], .bool (blkIn L id)]) ∧ Hid (Kept w w' ∧ w'.ownsRow w.heap.size 3 1 vs (blkV L id).length (ints (blkV L id))) := by
  have HT : Hid (∀ W, Kept w W → Calls Try.prog 27 #[.pointer (some ⟨p, 0, none⟩), .int .i64 id] W fun e w' => e = .returned (.bool (decide (0 ≤ id ∧ id < L.length))) ∧ W = w') := Lib.hid fun W hk => there_any (h.kept hk) id
  have hn := fun (u v : Value) => heap_alloc_new w (.cells #[u, v] 40)
  by_cases hin : 0 ≤ id ∧ id < L.length
  case neg =>
    obtain ⟨e1, e2, e3⟩ := blk_no hin
    have hd : decide (0 ≤ id ∧ id < (L.length : Int)) = false := decide_eq_false hin
    rw [e1, e2, e3]
    rw [hd] at HT
    have h0 := box_cell (hn (.int .i64 0) (.slice none 0 0)) 0 _ rfl
    have h1 := box_cell (hn (.int .i64 0) (.slice none 0 0)) 1 _ rfl
    clear h e1 e2 e3 hd hin hn
    go_enter Try.func19, Try.ntmps19
    go_wp2_with (first | (go_at_call 27; refine (HT.out _ ((Kept.refl w).alloc _)).mono ?_; rintro e w' ⟨rfl, rfl⟩))
    refine bodyPost_ret (v := .tuple #[.agg #[.int .i64 0, .slice none 0 0], .bool false]) ?_ rfl ⟨_, rfl, Lib.hid ⟨(Kept.refl w).alloc _, rfl, .inl ⟨rfl, rfl⟩⟩⟩
    simp [results, Try.results19, go_sem, h0, h1]
  have hd : decide (0 ≤ id ∧ id < (L.length : Int)) = true := decide_eq_true hin
  rw [hd] at HT
  clear hd
  obtain ⟨i, rfl⟩ : ∃ i : Nat, id = i := ⟨id.toNat, by omega⟩
  have hi : i < L.length := by omega
  rcases h.out with ⟨rfl, -⟩ | ⟨o, cap, cur, rfl, ho, hc, hm, hcell⟩
  · simp at hi
  obtain ⟨e1, e2, e3⟩ := blk_yes hi
  rw [e1, e2, e3]
  obtain ⟨c1, c2⟩ := hcell i hi
  have c0 := box_cell h.box 0 _ rfl
  have hx := h.inn L[i] (List.getElem_mem hi)
  have HW : Hid (∀ W, Kept w W → Calls Try.prog 26 #[.agg #[.int .i64 L[i].ty, bkVal L[i]]] W fun e w' => ∃ y : Bk, e = .returned (.agg #[.int .i64 L[i].ty, bkVal y]) ∧ y.ty = L[i].ty ∧ y.vals = L[i].vals ∧ Hid (Inn W.heap.size w' y ∧ W.heap.size ≤ y.g ∧ Kept W w')) := Lib.hid fun W hk => twin_any (hx.chg (S := fun _ => False) (Chg.of_kept hk) id) (hb _ (List.getElem_mem hi))
  have hps := box_lt h.box
  have hos := box_lt ho
  obtain ⟨p1, n1, k1, hv⟩ : ∃ p n c, bkVal L[i] = .slice p n c := ⟨_, _, _, rfl⟩
  rw [hv] at HW c2
  generalize L[i].ty = tt at *
  generalize L[i].vals = vv at *
  have HN := Lib.hid (hn (.int .i64 0) (.slice none 0 0))
  clear h e1 e2 e3 hcell ho hx hv hn hin hb
  go_enter Try.func19, Try.ntmps19
  go_wp2_with (first | (go_at_call 27; refine (HT.out _ ((Kept.refl w).alloc _)).mono ?_; rintro e w' ⟨rfl, rfl⟩) | (go_at_call 26; refine (HW.out _ ((Kept.refl w).alloc _)).mono ?_; rintro e wx ⟨y, rfl, hy1, hy2, hy3⟩; have Hy := Lib.hid (And.intro hy1 (And.intro hy2 hy3.out)); have q2 := Kept.heap hy3.out.2.2 HN.out; have y0 := box_cell q2 0 _ rfl; have y1 := box_cell q2 1 _ rfl; have f0 := box_froz q2 0; have f1 := box_froz q2 1; have Q2 := Lib.hid q2; clear hy1 hy2 hy3 q2; unfold bkVal))
  have hy := Hy.out
  have q3 := two_set Q2.out (.int .i64 tt) (.slice (some ⟨y.g, 0, none⟩) y.vals.length y.c)
  have h0 := box_cell q3 0 _ rfl
  have h1 := box_cell q3 1 _ rfl
  have hg : w.heap.size + 1 ≤ y.g := by simpa using hy.2.2.2.1
  refine bodyPost_ret (v := .tuple #[.agg #[.int .i64 tt, bkVal y], .bool true]) ?_ rfl ⟨_, rfl, Lib.hid ⟨?_, ?_⟩⟩
  · simp [results, Try.results19, go_sem, h0, h1, bkVal]
  · exact ((((Kept.refl w).alloc _).trans hy.2.2.2.2).setCell (by simp) _).setCell (by simp) _
  · have := ((hy.2.2.1.low (C := w.heap.size) (by simp)).far ⟨w.heap.size, 0, none⟩ (.int .i64 tt) (by simp; omega)).far ⟨w.heap.size, 1, none⟩ (.slice (some ⟨y.g, 0, none⟩) y.vals.length y.c) (by simp; omega)
    rw [← hy.2.1]; exact this
end Go.Proofs.Ytkdfkibpoccmlaa.Mem
