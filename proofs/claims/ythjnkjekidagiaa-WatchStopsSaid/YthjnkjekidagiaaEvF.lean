/-
  Package eval's reckoner: kids, openKid.
-/
import Derived.Test.YthjnkjekidagiaaEvE
namespace Go.Proofs.Ythjnkjekidagiaa.Evl
open Go.RowKit
open Prs (Ex)
open Fnd (bx_cell bx_froz)
section
variable {w0 w w' : World} {q : Nat} {lv mv bv ov obv : Value} {l : List Ex} {E : Env} {g h : Nat → Nat} {e : Nat → List Bool} {a : Nat → List Ans}
theorem ListAt.cells {w : World} {lv : Value} {l : List Ex} (hL : ListAt w lv l) {i : Nat} (hi : i < l.length) : ∃ b cap, lv = .slice (some ⟨b, 0, none⟩) l.length cap ∧ b < w.heap.size ∧
    w.cell? ⟨b, i * 7, none⟩ = some (.int .i64 l[i].kind) ∧ w.cell? ⟨b, i * 7 + 1, none⟩ = some (.int .i64 l[i].num) ∧ w.cell? ⟨b, i * 7 + 2, none⟩ = some (.int .i64 l[i].ty) ∧ w.cell? ⟨b, i * 7 + 3, none⟩ = some (.string ⟨l[i].name.toArray⟩) ∧ w.cell? ⟨b, i * 7 + 4, none⟩ = some (.int .i64 l[i].a) ∧ w.cell? ⟨b, i * 7 + 5, none⟩ = some (.int .i64 l[i].b) ∧ w.cell? ⟨b, i * 7 + 6, none⟩ = some (.int .i64 l[i].place) := by
  rcases hL.2 with ⟨_, h⟩ | ⟨b, cap, cur, h1, h2, h3, h4, h5⟩
  · subst h; simp at hi
  · obtain ⟨c0, c1, c2, c3, c4, c5, c6⟩ := h5 i hi
    exact ⟨b, cap, h1, (Array.getElem?_eq_some_iff.1 h4).1, bx_cell h4 _ _ c0, bx_cell h4 _ _ c1, bx_cell h4 _ _ c2, bx_cell h4 _ _ c3, bx_cell h4 _ _ c4, bx_cell h4 _ _ c5, bx_cell h4 _ _ c6⟩
theorem put2 {w W : World} {i : Nat} {x0 x1 : Value} {t : TypeId} (a b : Value) (hi : w.heap.size ≤ i) (hk : Kept w W) (h2 : W.heap[i]? = some (.cells #[x0, x1] t (0, 0))) :
    ((W.setCell ⟨i, 0, none⟩ a).setCell ⟨i, 1, none⟩ b).heap[i]? = some (.cells #[a, b] t (0, 0)) ∧ Kept w ((W.setCell ⟨i, 0, none⟩ a).setCell ⟨i, 1, none⟩ b) ∧ ∀ k, k ≠ i → ((W.setCell ⟨i, 0, none⟩ a).setCell ⟨i, 1, none⟩ b).heap[k]? = W.heap[k]? := by
  have e1 := heap_setCell_same W i 0 _ _ a h2
  have e2 := heap_setCell_same _ i 1 _ _ b e1
  refine ⟨by simpa using e2, (Below.setCell hk (p := ⟨i, 0, none⟩) hi a).setCell (p := ⟨i, 1, none⟩) hi b, fun k hne => ?_⟩
  rw [heap_setCell_other _ _ _ _ hne, heap_setCell_other _ _ _ _ hne]
theorem put1 {w W : World} {i : Nat} {x0 x1 : Value} {t : TypeId} (a : Value) (hi : w.heap.size ≤ i) (hk : Kept w W) (h2 : W.heap[i]? = some (.cells #[x0, x1] t (0, 0))) :
    (W.setCell ⟨i, 0, none⟩ a).heap[i]? = some (.cells #[a, x1] t (0, 0)) ∧ Kept w (W.setCell ⟨i, 0, none⟩ a) ∧ ∀ k, k ≠ i → (W.setCell ⟨i, 0, none⟩ a).heap[k]? = W.heap[k]? := by
  have e1 := heap_setCell_same W i 0 _ _ a h2
  refine ⟨by simpa using e1, Below.setCell hk (p := ⟨i, 0, none⟩) hi a, fun k hne => ?_⟩
  rw [heap_setCell_other _ _ _ _ hne]
set_option maxRecDepth 100000 in
set_option maxHeartbeats 4000000 in
theorem kids_old (H : Rk w0 w q lv mv bv ov obv l E g h e a) {i t : Nat} (hi : i < l.length) (hk : l[i].kind = 4) : Calls Try.prog 95 #[.pointer (some ⟨q, 0, none⟩), spotV ((i : Int), t)] w fun x w' => x = .returned (.tuple #[spotV ((l[i].a, 1)), spotV ((-1, t))]) ∧ Kept w w' := by
  have hn := H.list.1
  have hi1 : ((i : Int) < (l.length : Int)) := by omega
  obtain ⟨b, cap, hlv, hbw, c⟩ := (H.list.kept H.kept).cells hi
  have HL := fun (w' : World) (hk : Kept w w') => ((H.list.kept H.kept).kept hk).cells hi
  generalize l[i] = x at *
  subst hlv
  obtain ⟨K, hK⟩ : ∃ K : Int, (x.kind : Int) = K := ⟨_, rfl⟩
  have q4 : (K == 4) = true := by simp; omega
  clear hk
  unfold spotV
  go_enter Try.func95, Try.ntmps95
  go_upto_region 1 with fail
  obtain ⟨x0, x1, x2, kW, hsz⟩ := three w (.cells #[.int .i64 i, .int .i64 t] 139) (.cells #[.int .i64 0, .int .i64 0] 139) (.cells #[.int .i64 0, .int .i64 0] 139)
  generalize (((w.alloc (.cells #[.int .i64 i, .int .i64 t] 139)).alloc (.cells #[.int .i64 0, .int .i64 0] 139)).alloc (.cells #[.int .i64 0, .int .i64 0] 139)) = W at *
  obtain ⟨b', cap', e', hb', l0, l1, l2, l3, l4, l5, l6⟩ := HL W kW
  obtain ⟨rfl, rfl⟩ : b' = b ∧ cap' = cap := by injection e' with e1 _ e2; injection e1 with e1; injection e1 with e1; exact ⟨e1.symm, e2.symm⟩
  have hB := (H.keep kW).box
  have hq := (Array.getElem?_eq_some_iff.1 hB).1
  have q0 : w.heap.size < W.heap.size := by omega
  have q1 : w.heap.size + 1 < W.heap.size := by omega
  have q2 : w.heap.size + 1 + 1 < W.heap.size := by omega
  have c0 := bx_cell hB 0 _ rfl
  simp only [rkCells] at c0
  have s0 := bx_cell x0 0 _ rfl
  have s1 := bx_cell x0 1 _ rfl
  have a0 := bx_cell x1 0 _ rfl
  have a1 := bx_cell x1 1 _ rfl
  have b0 := bx_cell x2 0 _ rfl
  have b1 := bx_cell x2 1 _ rfl
  have fa := bx_froz x1
  have fb := bx_froz x2
  have KW := Lib.hid kW
  clear HL H hB e' c hbw hsz
  rw [hK] at l0
  have X := Lib.hid (And.intro x0 (And.intro x1 x2))
  clear x0 x1 x2 kW
  go_region
  go_wp2
  have y3 := kh (World.alloc_heap_new W (.cells #[.int .i64 K, .int .i64 x.num, .int .i64 x.ty, .string ⟨x.name.toArray⟩, .int .i64 x.a, .int .i64 x.b, .int .i64 x.place] 146)) (Kept.refl _).drew
  have K1 := ((Kept.refl W).alloc (.cells #[.int .i64 K, .int .i64 x.num, .int .i64 x.ty, .string ⟨x.name.toArray⟩, .int .i64 x.a, .int .i64 x.b, .int .i64 x.place] 146)).drew
  have Y := Lib.hid (And.intro (kh X.out.1 K1) (And.intro (kh X.out.2.1 K1) (And.intro (kh X.out.2.2 K1) y3)))
  have KY := Lib.hid (KW.out.trans K1)
  clear K1 y3 s0 s1 a0 a1 b0 b1 fa fb l0 l1 l2 l3 l4 l5 l6 c0 hq X KW
  generalize (W.alloc (.cells #[.int .i64 K, .int .i64 x.num, .int .i64 x.ty, .string ⟨x.name.toArray⟩, .int .i64 x.a, .int .i64 x.b, .int .i64 x.place] 146)).drew = W1 at *
  generalize W.heap.size = c at *
  have s1 := bx_cell Y.out.1 1 _ rfl
  have a0 := bx_cell Y.out.2.1 0 _ rfl
  have a1 := bx_cell Y.out.2.1 1 _ rfl
  have b0 := bx_cell Y.out.2.2.1 0 _ rfl
  have b1 := bx_cell Y.out.2.2.1 1 _ rfl
  have fa := bx_froz Y.out.2.1
  have fb := bx_froz Y.out.2.2.1
  go_region
  obtain ⟨p1, p2, p3⟩ := put2 (w := w) (W := W1) (i := w.heap.size + 1) (.int .i64 (-1)) (.int .i64 t) (by omega) KY.out Y.out.2.1
  obtain ⟨p4, p5, p6⟩ := put2 (w := w) (i := w.heap.size + 1 + 1) (.int .i64 (-1)) (.int .i64 t) (by omega) p2 ((p3 _ (by omega)).trans Y.out.2.2.1)
  have hc1 : c ≠ w.heap.size + 1 := by omega
  have hc2 : c ≠ w.heap.size + 1 + 1 := by omega
  have Z := Lib.hid (And.intro ((p6 _ (by omega)).trans p1) (And.intro p4 ((p6 _ hc2).trans ((p3 _ hc1).trans Y.out.2.2.2))))
  have KZ := Lib.hid p5.drew
  clear p1 p2 p3 p4 p5 p6 s1 a0 a1 b0 b1 fa fb Y KY
  replace Z : Hid ((((((W1.setCell ⟨w.heap.size + 1, 0, none⟩ (.int .i64 (-1))).setCell ⟨w.heap.size + 1, 1, none⟩ (.int .i64 t)).setCell ⟨w.heap.size + 1 + 1, 0, none⟩ (.int .i64 (-1))).setCell ⟨w.heap.size + 1 + 1, 1, none⟩ (.int .i64 t)).drew).heap[w.heap.size + 1]? = _ ∧ (((((W1.setCell ⟨w.heap.size + 1, 0, none⟩ (.int .i64 (-1))).setCell ⟨w.heap.size + 1, 1, none⟩ (.int .i64 t)).setCell ⟨w.heap.size + 1 + 1, 0, none⟩ (.int .i64 (-1))).setCell ⟨w.heap.size + 1 + 1, 1, none⟩ (.int .i64 t)).drew).heap[w.heap.size + 1 + 1]? = _ ∧ (((((W1.setCell ⟨w.heap.size + 1, 0, none⟩ (.int .i64 (-1))).setCell ⟨w.heap.size + 1, 1, none⟩ (.int .i64 t)).setCell ⟨w.heap.size + 1 + 1, 0, none⟩ (.int .i64 (-1))).setCell ⟨w.heap.size + 1 + 1, 1, none⟩ (.int .i64 t)).drew).heap[c]? = _) := Z
  generalize ((((W1.setCell ⟨w.heap.size + 1, 0, none⟩ (.int .i64 (-1))).setCell ⟨w.heap.size + 1, 1, none⟩ (.int .i64 t)).setCell ⟨w.heap.size + 1 + 1, 0, none⟩ (.int .i64 (-1))).setCell ⟨w.heap.size + 1 + 1, 1, none⟩ (.int .i64 t)).drew = W2 at *
  have a0 := bx_cell Z.out.1 0 _ rfl
  have a1 := bx_cell Z.out.1 1 _ rfl
  have b0 := bx_cell Z.out.2.1 0 _ rfl
  have b1 := bx_cell Z.out.2.1 1 _ rfl
  have fa := bx_froz Z.out.1
  have fb := bx_froz Z.out.2.1
  have n0 := bx_cell Z.out.2.2 0 _ rfl
  have n4 := bx_cell Z.out.2.2 4 _ rfl
  have n5 := bx_cell Z.out.2.2 5 _ rfl
  go_wp2
  obtain ⟨ha, hk5, ho⟩ := put2 (w := w) (W := W2) (i := w.heap.size + 1) (.int .i64 x.a) (.int .i64 1) (by omega) KZ.out Z.out.1
  have hb := (ho (w.heap.size + 1 + 1) (by omega)).trans Z.out.2.1
  clear ho
  generalize ((W2.setCell ⟨w.heap.size + 1, 0, none⟩ (.int .i64 x.a)).setCell ⟨w.heap.size + 1, 1, none⟩ (.int .i64 1)) = W3 at *
  have c0 := bx_cell ha 0 _ rfl
  have c1 := bx_cell ha 1 _ rfl
  have c2 := bx_cell hb 0 _ rfl
  have c3 := bx_cell hb 1 _ rfl
  have ga := bx_froz ha
  have gb := bx_froz hb
  obtain ⟨p1, p2, p3⟩ := put2 (w := w) (W := W3) (i := w.heap.size + 1) (.int .i64 x.a) (.int .i64 1) (by omega) hk5 ha
  obtain ⟨p4, p5, p6⟩ := put2 (w := w) (i := w.heap.size + 1 + 1) (.int .i64 (-1)) (.int .i64 t) (by omega) p2 ((p3 _ (by omega)).trans hb)
  have p7 := (p6 (w.heap.size + 1) (by omega)).trans p1
  have z0 := bx_cell p7 0 _ rfl
  have z1 := bx_cell p7 1 _ rfl
  have z2 := bx_cell p4 0 _ rfl
  have z3 := bx_cell p4 1 _ rfl
  have S := Lib.hid p5.drew
  clear ha hb hk5 p1 p2 p3 p4 p5 p6 p7 a0 a1 b0 b1 fa fb n0 n4 n5
  go_region
  go_wp2
  clear c0 c1 c2 c3 ga gb
  simp [bodyPost, results, Try.f95, go_sem, z0, z1, z2, z3]
  exact S.out
set_option maxRecDepth 100000 in
set_option maxHeartbeats 4000000 in
theorem kids_two (H : Rk w0 w q lv mv bv ov obv l E g h e a) {i t : Nat} (hi : i < l.length) (hk : twoK l[i].kind) : Calls Try.prog 95 #[.pointer (some ⟨q, 0, none⟩), spotV ((i : Int), t)] w fun x w' => x = .returned (.tuple #[spotV ((l[i].a, t)), spotV ((l[i].b, t))]) ∧ Kept w w' := by
  have hn := H.list.1
  have hi1 : ((i : Int) < (l.length : Int)) := by omega
  obtain ⟨b, cap, hlv, hbw, c⟩ := (H.list.kept H.kept).cells hi
  have HL := fun (w' : World) (hk : Kept w w') => ((H.list.kept H.kept).kept hk).cells hi
  generalize l[i] = x at *
  subst hlv
  obtain ⟨K, hK⟩ : ∃ K : Int, (x.kind : Int) = K := ⟨_, rfl⟩
  replace hk : K = 8 ∨ K = 9 ∨ K = 10 ∨ K = 11 ∨ K = 12 ∨ K = 13 ∨ K = 14 ∨ K = 15 ∨ K = 16 ∨ K = 17 := by unfold twoK at hk; omega
  have Hk := Lib.hid hk
  clear hk
  unfold spotV
  go_enter Try.func95, Try.ntmps95
  go_upto_region 1 with fail
  obtain ⟨x0, x1, x2, kW, hsz⟩ := three w (.cells #[.int .i64 i, .int .i64 t] 139) (.cells #[.int .i64 0, .int .i64 0] 139) (.cells #[.int .i64 0, .int .i64 0] 139)
  generalize (((w.alloc (.cells #[.int .i64 i, .int .i64 t] 139)).alloc (.cells #[.int .i64 0, .int .i64 0] 139)).alloc (.cells #[.int .i64 0, .int .i64 0] 139)) = W at *
  obtain ⟨b', cap', e', hb', l0, l1, l2, l3, l4, l5, l6⟩ := HL W kW
  obtain ⟨rfl, rfl⟩ : b' = b ∧ cap' = cap := by injection e' with e1 _ e2; injection e1 with e1; injection e1 with e1; exact ⟨e1.symm, e2.symm⟩
  have hB := (H.keep kW).box
  have hq := (Array.getElem?_eq_some_iff.1 hB).1
  have q0 : w.heap.size < W.heap.size := by omega
  have q1 : w.heap.size + 1 < W.heap.size := by omega
  have q2 : w.heap.size + 1 + 1 < W.heap.size := by omega
  have c0 := bx_cell hB 0 _ rfl
  simp only [rkCells] at c0
  have s0 := bx_cell x0 0 _ rfl
  have s1 := bx_cell x0 1 _ rfl
  have a0 := bx_cell x1 0 _ rfl
  have a1 := bx_cell x1 1 _ rfl
  have b0 := bx_cell x2 0 _ rfl
  have b1 := bx_cell x2 1 _ rfl
  have fa := bx_froz x1
  have fb := bx_froz x2
  have KW := Lib.hid kW
  clear HL H hB e' c hbw hsz
  rw [hK] at l0
  have X := Lib.hid (And.intro x0 (And.intro x1 x2))
  clear x0 x1 x2 kW
  go_region
  go_wp2
  have y3 := kh (World.alloc_heap_new W (.cells #[.int .i64 K, .int .i64 x.num, .int .i64 x.ty, .string ⟨x.name.toArray⟩, .int .i64 x.a, .int .i64 x.b, .int .i64 x.place] 146)) (Kept.refl _).drew
  have K1 := ((Kept.refl W).alloc (.cells #[.int .i64 K, .int .i64 x.num, .int .i64 x.ty, .string ⟨x.name.toArray⟩, .int .i64 x.a, .int .i64 x.b, .int .i64 x.place] 146)).drew
  have Y := Lib.hid (And.intro (kh X.out.1 K1) (And.intro (kh X.out.2.1 K1) (And.intro (kh X.out.2.2 K1) y3)))
  have KY := Lib.hid (KW.out.trans K1)
  clear K1 y3 s0 s1 a0 a1 b0 b1 fa fb l0 l1 l2 l3 l4 l5 l6 c0 hq X KW
  generalize (W.alloc (.cells #[.int .i64 K, .int .i64 x.num, .int .i64 x.ty, .string ⟨x.name.toArray⟩, .int .i64 x.a, .int .i64 x.b, .int .i64 x.place] 146)).drew = W1 at *
  generalize W.heap.size = c at *
  have s1 := bx_cell Y.out.1 1 _ rfl
  have a0 := bx_cell Y.out.2.1 0 _ rfl
  have a1 := bx_cell Y.out.2.1 1 _ rfl
  have b0 := bx_cell Y.out.2.2.1 0 _ rfl
  have b1 := bx_cell Y.out.2.2.1 1 _ rfl
  have fa := bx_froz Y.out.2.1
  have fb := bx_froz Y.out.2.2.1
  go_region
  obtain ⟨p1, p2, p3⟩ := put2 (w := w) (W := W1) (i := w.heap.size + 1) (.int .i64 (-1)) (.int .i64 t) (by omega) KY.out Y.out.2.1
  obtain ⟨p4, p5, p6⟩ := put2 (w := w) (i := w.heap.size + 1 + 1) (.int .i64 (-1)) (.int .i64 t) (by omega) p2 ((p3 _ (by omega)).trans Y.out.2.2.1)
  have hc1 : c ≠ w.heap.size + 1 := by omega
  have hc2 : c ≠ w.heap.size + 1 + 1 := by omega
  have Z := Lib.hid (And.intro ((p6 _ (by omega)).trans p1) (And.intro p4 ((p6 _ hc2).trans ((p3 _ hc1).trans Y.out.2.2.2))))
  have KZ := Lib.hid p5.drew
  clear p1 p2 p3 p4 p5 p6 s1 a0 a1 b0 b1 fa fb Y KY
  replace Z : Hid ((((((W1.setCell ⟨w.heap.size + 1, 0, none⟩ (.int .i64 (-1))).setCell ⟨w.heap.size + 1, 1, none⟩ (.int .i64 t)).setCell ⟨w.heap.size + 1 + 1, 0, none⟩ (.int .i64 (-1))).setCell ⟨w.heap.size + 1 + 1, 1, none⟩ (.int .i64 t)).drew).heap[w.heap.size + 1]? = _ ∧ (((((W1.setCell ⟨w.heap.size + 1, 0, none⟩ (.int .i64 (-1))).setCell ⟨w.heap.size + 1, 1, none⟩ (.int .i64 t)).setCell ⟨w.heap.size + 1 + 1, 0, none⟩ (.int .i64 (-1))).setCell ⟨w.heap.size + 1 + 1, 1, none⟩ (.int .i64 t)).drew).heap[w.heap.size + 1 + 1]? = _ ∧ (((((W1.setCell ⟨w.heap.size + 1, 0, none⟩ (.int .i64 (-1))).setCell ⟨w.heap.size + 1, 1, none⟩ (.int .i64 t)).setCell ⟨w.heap.size + 1 + 1, 0, none⟩ (.int .i64 (-1))).setCell ⟨w.heap.size + 1 + 1, 1, none⟩ (.int .i64 t)).drew).heap[c]? = _) := Z
  generalize ((((W1.setCell ⟨w.heap.size + 1, 0, none⟩ (.int .i64 (-1))).setCell ⟨w.heap.size + 1, 1, none⟩ (.int .i64 t)).setCell ⟨w.heap.size + 1 + 1, 0, none⟩ (.int .i64 (-1))).setCell ⟨w.heap.size + 1 + 1, 1, none⟩ (.int .i64 t)).drew = W2 at *
  have a0 := bx_cell Z.out.1 0 _ rfl
  have a1 := bx_cell Z.out.1 1 _ rfl
  have b0 := bx_cell Z.out.2.1 0 _ rfl
  have b1 := bx_cell Z.out.2.1 1 _ rfl
  have fa := bx_froz Z.out.1
  have fb := bx_froz Z.out.2.1
  have n0 := bx_cell Z.out.2.2 0 _ rfl
  have n4 := bx_cell Z.out.2.2 4 _ rfl
  have n5 := bx_cell Z.out.2.2 5 _ rfl
  rcases Hk.out with rfl | rfl | rfl | rfl | rfl | rfl | rfl | rfl | rfl | rfl
  all_goals
    clear Hk
    go_wp2
    obtain ⟨hb', hk5', ho'⟩ := put1 (w := w) (W := W2) (i := w.heap.size + 1 + 1) (.int .i64 x.b) (by omega) KZ.out Z.out.2.1
    obtain ⟨ha, hk5, ho⟩ := put1 (w := w) (i := w.heap.size + 1) (.int .i64 x.a) (by omega) hk5' ((ho' _ (by omega)).trans Z.out.1)
    have hb := (ho (w.heap.size + 1 + 1) (by omega)).trans hb'
    clear ho ho' hb' hk5'
    generalize ((W2.setCell ⟨w.heap.size + 1 + 1, 0, none⟩ (.int .i64 x.b)).setCell ⟨w.heap.size + 1, 0, none⟩ (.int .i64 x.a)) = W3 at *
    have c0 := bx_cell ha 0 _ rfl
    have c1 := bx_cell ha 1 _ rfl
    have c2 := bx_cell hb 0 _ rfl
    have c3 := bx_cell hb 1 _ rfl
    have ga := bx_froz ha
    have gb := bx_froz hb
    obtain ⟨p1, p2, p3⟩ := put2 (w := w) (W := W3) (i := w.heap.size + 1) (.int .i64 x.a) (.int .i64 t) (by omega) hk5 ha
    obtain ⟨p4, p5, p6⟩ := put2 (w := w) (i := w.heap.size + 1 + 1) (.int .i64 x.b) (.int .i64 t) (by omega) p2 ((p3 _ (by omega)).trans hb)
    have p7 := (p6 (w.heap.size + 1) (by omega)).trans p1
    have z0 := bx_cell p7 0 _ rfl
    have z1 := bx_cell p7 1 _ rfl
    have z2 := bx_cell p4 0 _ rfl
    have z3 := bx_cell p4 1 _ rfl
    have S := Lib.hid p5.drew
    clear ha hb hk5 p1 p2 p3 p4 p5 p6 p7 a0 a1 b0 b1 fa fb n0 n4 n5
    go_region
    go_wp2
    clear c0 c1 c2 c3 ga gb
    simp [bodyPost, results, Try.f95, go_sem, z0, z1, z2, z3]
    exact S.out
set_option maxRecDepth 100000 in
set_option maxHeartbeats 4000000 in
theorem kids_one (H : Rk w0 w q lv mv bv ov obv l E g h e a) {i t : Nat} (hi : i < l.length) (hk : oneK l[i].kind) : Calls Try.prog 95 #[.pointer (some ⟨q, 0, none⟩), spotV ((i : Int), t)] w fun x w' => x = .returned (.tuple #[spotV ((l[i].a, t)), spotV ((-1, t))]) ∧ Kept w w' := by
  have hn := H.list.1
  have hi1 : ((i : Int) < (l.length : Int)) := by omega
  obtain ⟨b, cap, hlv, hbw, c⟩ := (H.list.kept H.kept).cells hi
  have HL := fun (w' : World) (hk : Kept w w') => ((H.list.kept H.kept).kept hk).cells hi
  generalize l[i] = x at *
  subst hlv
  obtain ⟨K, hK⟩ : ∃ K : Int, (x.kind : Int) = K := ⟨_, rfl⟩
  replace hk : K = 3 ∨ K = 6 ∨ K = 7 ∨ K = 18 := by unfold oneK at hk; omega
  have Hk := Lib.hid hk
  clear hk
  unfold spotV
  go_enter Try.func95, Try.ntmps95
  go_upto_region 1 with fail
  obtain ⟨x0, x1, x2, kW, hsz⟩ := three w (.cells #[.int .i64 i, .int .i64 t] 139) (.cells #[.int .i64 0, .int .i64 0] 139) (.cells #[.int .i64 0, .int .i64 0] 139)
  generalize (((w.alloc (.cells #[.int .i64 i, .int .i64 t] 139)).alloc (.cells #[.int .i64 0, .int .i64 0] 139)).alloc (.cells #[.int .i64 0, .int .i64 0] 139)) = W at *
  obtain ⟨b', cap', e', hb', l0, l1, l2, l3, l4, l5, l6⟩ := HL W kW
  obtain ⟨rfl, rfl⟩ : b' = b ∧ cap' = cap := by injection e' with e1 _ e2; injection e1 with e1; injection e1 with e1; exact ⟨e1.symm, e2.symm⟩
  have hB := (H.keep kW).box
  have hq := (Array.getElem?_eq_some_iff.1 hB).1
  have q0 : w.heap.size < W.heap.size := by omega
  have q1 : w.heap.size + 1 < W.heap.size := by omega
  have q2 : w.heap.size + 1 + 1 < W.heap.size := by omega
  have c0 := bx_cell hB 0 _ rfl
  simp only [rkCells] at c0
  have s0 := bx_cell x0 0 _ rfl
  have s1 := bx_cell x0 1 _ rfl
  have a0 := bx_cell x1 0 _ rfl
  have a1 := bx_cell x1 1 _ rfl
  have b0 := bx_cell x2 0 _ rfl
  have b1 := bx_cell x2 1 _ rfl
  have fa := bx_froz x1
  have fb := bx_froz x2
  have KW := Lib.hid kW
  clear HL H hB e' c hbw hsz
  rw [hK] at l0
  have X := Lib.hid (And.intro x0 (And.intro x1 x2))
  clear x0 x1 x2 kW
  go_region
  go_wp2
  have y3 := kh (World.alloc_heap_new W (.cells #[.int .i64 K, .int .i64 x.num, .int .i64 x.ty, .string ⟨x.name.toArray⟩, .int .i64 x.a, .int .i64 x.b, .int .i64 x.place] 146)) (Kept.refl _).drew
  have K1 := ((Kept.refl W).alloc (.cells #[.int .i64 K, .int .i64 x.num, .int .i64 x.ty, .string ⟨x.name.toArray⟩, .int .i64 x.a, .int .i64 x.b, .int .i64 x.place] 146)).drew
  have Y := Lib.hid (And.intro (kh X.out.1 K1) (And.intro (kh X.out.2.1 K1) (And.intro (kh X.out.2.2 K1) y3)))
  have KY := Lib.hid (KW.out.trans K1)
  clear K1 y3 s0 s1 a0 a1 b0 b1 fa fb l0 l1 l2 l3 l4 l5 l6 c0 hq X KW
  generalize (W.alloc (.cells #[.int .i64 K, .int .i64 x.num, .int .i64 x.ty, .string ⟨x.name.toArray⟩, .int .i64 x.a, .int .i64 x.b, .int .i64 x.place] 146)).drew = W1 at *
  generalize W.heap.size = c at *
  have s1 := bx_cell Y.out.1 1 _ rfl
  have a0 := bx_cell Y.out.2.1 0 _ rfl
  have a1 := bx_cell Y.out.2.1 1 _ rfl
  have b0 := bx_cell Y.out.2.2.1 0 _ rfl
  have b1 := bx_cell Y.out.2.2.1 1 _ rfl
  have fa := bx_froz Y.out.2.1
  have fb := bx_froz Y.out.2.2.1
  go_region
  obtain ⟨p1, p2, p3⟩ := put2 (w := w) (W := W1) (i := w.heap.size + 1) (.int .i64 (-1)) (.int .i64 t) (by omega) KY.out Y.out.2.1
  obtain ⟨p4, p5, p6⟩ := put2 (w := w) (i := w.heap.size + 1 + 1) (.int .i64 (-1)) (.int .i64 t) (by omega) p2 ((p3 _ (by omega)).trans Y.out.2.2.1)
  have hc1 : c ≠ w.heap.size + 1 := by omega
  have hc2 : c ≠ w.heap.size + 1 + 1 := by omega
  have Z := Lib.hid (And.intro ((p6 _ (by omega)).trans p1) (And.intro p4 ((p6 _ hc2).trans ((p3 _ hc1).trans Y.out.2.2.2))))
  have KZ := Lib.hid p5.drew
  clear p1 p2 p3 p4 p5 p6 s1 a0 a1 b0 b1 fa fb Y KY
  replace Z : Hid ((((((W1.setCell ⟨w.heap.size + 1, 0, none⟩ (.int .i64 (-1))).setCell ⟨w.heap.size + 1, 1, none⟩ (.int .i64 t)).setCell ⟨w.heap.size + 1 + 1, 0, none⟩ (.int .i64 (-1))).setCell ⟨w.heap.size + 1 + 1, 1, none⟩ (.int .i64 t)).drew).heap[w.heap.size + 1]? = _ ∧ (((((W1.setCell ⟨w.heap.size + 1, 0, none⟩ (.int .i64 (-1))).setCell ⟨w.heap.size + 1, 1, none⟩ (.int .i64 t)).setCell ⟨w.heap.size + 1 + 1, 0, none⟩ (.int .i64 (-1))).setCell ⟨w.heap.size + 1 + 1, 1, none⟩ (.int .i64 t)).drew).heap[w.heap.size + 1 + 1]? = _ ∧ (((((W1.setCell ⟨w.heap.size + 1, 0, none⟩ (.int .i64 (-1))).setCell ⟨w.heap.size + 1, 1, none⟩ (.int .i64 t)).setCell ⟨w.heap.size + 1 + 1, 0, none⟩ (.int .i64 (-1))).setCell ⟨w.heap.size + 1 + 1, 1, none⟩ (.int .i64 t)).drew).heap[c]? = _) := Z
  generalize ((((W1.setCell ⟨w.heap.size + 1, 0, none⟩ (.int .i64 (-1))).setCell ⟨w.heap.size + 1, 1, none⟩ (.int .i64 t)).setCell ⟨w.heap.size + 1 + 1, 0, none⟩ (.int .i64 (-1))).setCell ⟨w.heap.size + 1 + 1, 1, none⟩ (.int .i64 t)).drew = W2 at *
  have a0 := bx_cell Z.out.1 0 _ rfl
  have a1 := bx_cell Z.out.1 1 _ rfl
  have b0 := bx_cell Z.out.2.1 0 _ rfl
  have b1 := bx_cell Z.out.2.1 1 _ rfl
  have fa := bx_froz Z.out.1
  have fb := bx_froz Z.out.2.1
  have n0 := bx_cell Z.out.2.2 0 _ rfl
  have n4 := bx_cell Z.out.2.2 4 _ rfl
  have n5 := bx_cell Z.out.2.2 5 _ rfl
  rcases Hk.out with rfl | rfl | rfl | rfl
  all_goals
    clear Hk
    go_wp2
    obtain ⟨ha, hk5, ho⟩ := put1 (w := w) (W := W2) (i := w.heap.size + 1) (.int .i64 x.a) (by omega) KZ.out Z.out.1
    have hb := (ho (w.heap.size + 1 + 1) (by omega)).trans Z.out.2.1
    clear ho
    generalize (W2.setCell ⟨w.heap.size + 1, 0, none⟩ (.int .i64 x.a)) = W3 at *
    have c0 := bx_cell ha 0 _ rfl
    have c1 := bx_cell ha 1 _ rfl
    have c2 := bx_cell hb 0 _ rfl
    have c3 := bx_cell hb 1 _ rfl
    have ga := bx_froz ha
    have gb := bx_froz hb
    obtain ⟨p1, p2, p3⟩ := put2 (w := w) (W := W3) (i := w.heap.size + 1) (.int .i64 x.a) (.int .i64 t) (by omega) hk5 ha
    obtain ⟨p4, p5, p6⟩ := put2 (w := w) (i := w.heap.size + 1 + 1) (.int .i64 (-1)) (.int .i64 t) (by omega) p2 ((p3 _ (by omega)).trans hb)
    have p7 := (p6 (w.heap.size + 1) (by omega)).trans p1
    have z0 := bx_cell p7 0 _ rfl
    have z1 := bx_cell p7 1 _ rfl
    have z2 := bx_cell p4 0 _ rfl
    have z3 := bx_cell p4 1 _ rfl
    have S := Lib.hid p5.drew
    clear ha hb hk5 p1 p2 p3 p4 p5 p6 p7 a0 a1 b0 b1 fa fb n0 n4 n5
    go_region
    go_wp2
    clear c0 c1 c2 c3 ga gb
    simp [bodyPost, results, Try.f95, go_sem, z0, z1, z2, z3]
    exact S.out
set_option maxRecDepth 100000 in
set_option maxHeartbeats 4000000 in
theorem kids_none (H : Rk w0 w q lv mv bv ov obv l E g h e a) {i t : Nat} (hi : i < l.length) (hk : l[i].kind ≠ 4 ∧ ¬ twoK l[i].kind ∧ ¬ oneK l[i].kind) : Calls Try.prog 95 #[.pointer (some ⟨q, 0, none⟩), spotV ((i : Int), t)] w fun x w' => x = .returned (.tuple #[spotV ((-1, t)), spotV ((-1, t))]) ∧ Kept w w' := by
  have hn := H.list.1
  have hi1 : ((i : Int) < (l.length : Int)) := by omega
  obtain ⟨b, cap, hlv, hbw, c⟩ := (H.list.kept H.kept).cells hi
  have HL := fun (w' : World) (hk : Kept w w') => ((H.list.kept H.kept).kept hk).cells hi
  generalize l[i] = x at *
  subst hlv
  obtain ⟨K, hK⟩ : ∃ K : Int, (x.kind : Int) = K := ⟨_, rfl⟩
  have f4 : (K == 4) = false := by unfold twoK oneK at hk; simp; omega
  have f8 : (K == 8) = false := by unfold twoK oneK at hk; simp; omega
  have f9 : (K == 9) = false := by unfold twoK oneK at hk; simp; omega
  have f10 : (K == 10) = false := by unfold twoK oneK at hk; simp; omega
  have f11 : (K == 11) = false := by unfold twoK oneK at hk; simp; omega
  have f12 : (K == 12) = false := by unfold twoK oneK at hk; simp; omega
  have f13 : (K == 13) = false := by unfold twoK oneK at hk; simp; omega
  have f14 : (K == 14) = false := by unfold twoK oneK at hk; simp; omega
  have f15 : (K == 15) = false := by unfold twoK oneK at hk; simp; omega
  have f16 : (K == 16) = false := by unfold twoK oneK at hk; simp; omega
  have f17 : (K == 17) = false := by unfold twoK oneK at hk; simp; omega
  have f3 : (K == 3) = false := by unfold twoK oneK at hk; simp; omega
  have f6 : (K == 6) = false := by unfold twoK oneK at hk; simp; omega
  have f7 : (K == 7) = false := by unfold twoK oneK at hk; simp; omega
  have f18 : (K == 18) = false := by unfold twoK oneK at hk; simp; omega
  clear hk
  unfold spotV
  go_enter Try.func95, Try.ntmps95
  go_upto_region 1 with fail
  obtain ⟨x0, x1, x2, kW, hsz⟩ := three w (.cells #[.int .i64 i, .int .i64 t] 139) (.cells #[.int .i64 0, .int .i64 0] 139) (.cells #[.int .i64 0, .int .i64 0] 139)
  generalize (((w.alloc (.cells #[.int .i64 i, .int .i64 t] 139)).alloc (.cells #[.int .i64 0, .int .i64 0] 139)).alloc (.cells #[.int .i64 0, .int .i64 0] 139)) = W at *
  obtain ⟨b', cap', e', hb', l0, l1, l2, l3, l4, l5, l6⟩ := HL W kW
  obtain ⟨rfl, rfl⟩ : b' = b ∧ cap' = cap := by injection e' with e1 _ e2; injection e1 with e1; injection e1 with e1; exact ⟨e1.symm, e2.symm⟩
  have hB := (H.keep kW).box
  have hq := (Array.getElem?_eq_some_iff.1 hB).1
  have q0 : w.heap.size < W.heap.size := by omega
  have q1 : w.heap.size + 1 < W.heap.size := by omega
  have q2 : w.heap.size + 1 + 1 < W.heap.size := by omega
  have c0 := bx_cell hB 0 _ rfl
  simp only [rkCells] at c0
  have s0 := bx_cell x0 0 _ rfl
  have s1 := bx_cell x0 1 _ rfl
  have a0 := bx_cell x1 0 _ rfl
  have a1 := bx_cell x1 1 _ rfl
  have b0 := bx_cell x2 0 _ rfl
  have b1 := bx_cell x2 1 _ rfl
  have fa := bx_froz x1
  have fb := bx_froz x2
  have KW := Lib.hid kW
  clear HL H hB e' c hbw hsz
  rw [hK] at l0
  have X := Lib.hid (And.intro x0 (And.intro x1 x2))
  clear x0 x1 x2 kW
  go_region
  go_wp2
  have y3 := kh (World.alloc_heap_new W (.cells #[.int .i64 K, .int .i64 x.num, .int .i64 x.ty, .string ⟨x.name.toArray⟩, .int .i64 x.a, .int .i64 x.b, .int .i64 x.place] 146)) (Kept.refl _).drew
  have K1 := ((Kept.refl W).alloc (.cells #[.int .i64 K, .int .i64 x.num, .int .i64 x.ty, .string ⟨x.name.toArray⟩, .int .i64 x.a, .int .i64 x.b, .int .i64 x.place] 146)).drew
  have Y := Lib.hid (And.intro (kh X.out.1 K1) (And.intro (kh X.out.2.1 K1) (And.intro (kh X.out.2.2 K1) y3)))
  have KY := Lib.hid (KW.out.trans K1)
  clear K1 y3 s0 s1 a0 a1 b0 b1 fa fb l0 l1 l2 l3 l4 l5 l6 c0 hq X KW
  generalize (W.alloc (.cells #[.int .i64 K, .int .i64 x.num, .int .i64 x.ty, .string ⟨x.name.toArray⟩, .int .i64 x.a, .int .i64 x.b, .int .i64 x.place] 146)).drew = W1 at *
  generalize W.heap.size = c at *
  have s1 := bx_cell Y.out.1 1 _ rfl
  have a0 := bx_cell Y.out.2.1 0 _ rfl
  have a1 := bx_cell Y.out.2.1 1 _ rfl
  have b0 := bx_cell Y.out.2.2.1 0 _ rfl
  have b1 := bx_cell Y.out.2.2.1 1 _ rfl
  have fa := bx_froz Y.out.2.1
  have fb := bx_froz Y.out.2.2.1
  go_region
  obtain ⟨p1, p2, p3⟩ := put2 (w := w) (W := W1) (i := w.heap.size + 1) (.int .i64 (-1)) (.int .i64 t) (by omega) KY.out Y.out.2.1
  obtain ⟨p4, p5, p6⟩ := put2 (w := w) (i := w.heap.size + 1 + 1) (.int .i64 (-1)) (.int .i64 t) (by omega) p2 ((p3 _ (by omega)).trans Y.out.2.2.1)
  have hc1 : c ≠ w.heap.size + 1 := by omega
  have hc2 : c ≠ w.heap.size + 1 + 1 := by omega
  have Z := Lib.hid (And.intro ((p6 _ (by omega)).trans p1) (And.intro p4 ((p6 _ hc2).trans ((p3 _ hc1).trans Y.out.2.2.2))))
  have KZ := Lib.hid p5.drew
  clear p1 p2 p3 p4 p5 p6 s1 a0 a1 b0 b1 fa fb Y KY
  replace Z : Hid ((((((W1.setCell ⟨w.heap.size + 1, 0, none⟩ (.int .i64 (-1))).setCell ⟨w.heap.size + 1, 1, none⟩ (.int .i64 t)).setCell ⟨w.heap.size + 1 + 1, 0, none⟩ (.int .i64 (-1))).setCell ⟨w.heap.size + 1 + 1, 1, none⟩ (.int .i64 t)).drew).heap[w.heap.size + 1]? = _ ∧ (((((W1.setCell ⟨w.heap.size + 1, 0, none⟩ (.int .i64 (-1))).setCell ⟨w.heap.size + 1, 1, none⟩ (.int .i64 t)).setCell ⟨w.heap.size + 1 + 1, 0, none⟩ (.int .i64 (-1))).setCell ⟨w.heap.size + 1 + 1, 1, none⟩ (.int .i64 t)).drew).heap[w.heap.size + 1 + 1]? = _ ∧ (((((W1.setCell ⟨w.heap.size + 1, 0, none⟩ (.int .i64 (-1))).setCell ⟨w.heap.size + 1, 1, none⟩ (.int .i64 t)).setCell ⟨w.heap.size + 1 + 1, 0, none⟩ (.int .i64 (-1))).setCell ⟨w.heap.size + 1 + 1, 1, none⟩ (.int .i64 t)).drew).heap[c]? = _) := Z
  generalize ((((W1.setCell ⟨w.heap.size + 1, 0, none⟩ (.int .i64 (-1))).setCell ⟨w.heap.size + 1, 1, none⟩ (.int .i64 t)).setCell ⟨w.heap.size + 1 + 1, 0, none⟩ (.int .i64 (-1))).setCell ⟨w.heap.size + 1 + 1, 1, none⟩ (.int .i64 t)).drew = W2 at *
  have a0 := bx_cell Z.out.1 0 _ rfl
  have a1 := bx_cell Z.out.1 1 _ rfl
  have b0 := bx_cell Z.out.2.1 0 _ rfl
  have b1 := bx_cell Z.out.2.1 1 _ rfl
  have fa := bx_froz Z.out.1
  have fb := bx_froz Z.out.2.1
  have n0 := bx_cell Z.out.2.2 0 _ rfl
  have n4 := bx_cell Z.out.2.2 4 _ rfl
  have n5 := bx_cell Z.out.2.2 5 _ rfl
  go_wp2
  have ha := Z.out.1
  have hb := Z.out.2.1
  have hk5 := KZ.out
  have hWW := rfl (a := W2)
  generalize W2 = W3 at *
  clear hWW
  have c0 := bx_cell ha 0 _ rfl
  have c1 := bx_cell ha 1 _ rfl
  have c2 := bx_cell hb 0 _ rfl
  have c3 := bx_cell hb 1 _ rfl
  have ga := bx_froz ha
  have gb := bx_froz hb
  obtain ⟨p1, p2, p3⟩ := put2 (w := w) (W := W3) (i := w.heap.size + 1) (.int .i64 (-1)) (.int .i64 t) (by omega) hk5 ha
  obtain ⟨p4, p5, p6⟩ := put2 (w := w) (i := w.heap.size + 1 + 1) (.int .i64 (-1)) (.int .i64 t) (by omega) p2 ((p3 _ (by omega)).trans hb)
  have p7 := (p6 (w.heap.size + 1) (by omega)).trans p1
  have z0 := bx_cell p7 0 _ rfl
  have z1 := bx_cell p7 1 _ rfl
  have z2 := bx_cell p4 0 _ rfl
  have z3 := bx_cell p4 1 _ rfl
  have S := Lib.hid p5.drew
  clear ha hb hk5 p1 p2 p3 p4 p5 p6 p7 a0 a1 b0 b1 fa fb n0 n4 n5
  go_region
  go_wp2
  clear c0 c1 c2 c3 ga gb
  simp [bodyPost, results, Try.f95, go_sem, z0, z1, z2, z3]
  exact S.out
theorem kids_any (H : Rk w0 w q lv mv bv ov obv l E g h e a) {i t : Nat} (hi : i < l.length) : Calls Try.prog 95 #[.pointer (some ⟨q, 0, none⟩), spotV ((i : Int), t)] w fun x w' => x = .returned (.tuple #[spotV (kidA l[i] t), spotV (kidB l[i] t)]) ∧ Kept w w' := by
  unfold kidA kidB
  by_cases h4 : l[i].kind = 4
  · rw [if_pos h4, if_neg (by unfold twoK; omega)]; exact kids_old H hi h4
  rw [if_neg h4]
  by_cases h2 : twoK l[i].kind
  · rw [if_pos (.inl h2), if_pos h2]; exact kids_two H hi h2
  by_cases h1 : oneK l[i].kind
  · rw [if_pos (.inr h1), if_neg h2]; exact kids_one H hi h1
  rw [if_neg (fun h => h.elim h2 h1), if_neg h2]
  exact kids_none H hi ⟨h4, h2, h1⟩
end
end Go.Proofs.Ythjnkjekidagiaa.Evl
