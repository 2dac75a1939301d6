/-
  Package eval's judge in memory (Jd), and its methods told, enter, undecided.
-/
import Derived.Test.YtnlkcjbnmkpnhaaEvS
import Derived.Test.YtnlkcjbnmkpnhaaEvD
import Derived.Test.YtnlkcjbnmkpnhaaRrdH
import Derived.Test.YtnlkcjbnmkpnhaaEvJ
namespace Go.Proofs.Ytnlkcjbnmkpnhaa.Evl
open Go.RowKit
open Prs (Ex Cn)
open Fnd (bx_cell bx_froz)

/-- The cells of one condition of a list; its two lists of nodes lie in memory. -/
structure CondCell (w : World) (cur : Array Value) (i : Nat) (c : Cn) (x y : Value) : Prop where
  c0 : cur[i * 7]? = some (.int .i64 c.kind)
  c1 : cur[i * 7 + 1]? = some (.int .i64 c.rel)
  c2 : cur[i * 7 + 2]? = some x
  c3 : cur[i * 7 + 3]? = some y
  c4 : cur[i * 7 + 4]? = some (.int .i64 c.a)
  c5 : cur[i * 7 + 5]? = some (.int .i64 c.b)
  c6 : cur[i * 7 + 6]? = some (.int .i64 c.place)
  lx : ListAt w x c.x
  ly : ListAt w y c.y
/-- A list of conditions lies in memory. -/
def CondsAt (w : World) (cv : Value) (l : List Cn) : Prop :=
  l.length ≤ 8193 ∧ ((cv = .slice none 0 0 ∧ l = []) ∨ ∃ b cap cur, cv = .slice (some ⟨b, 0, none⟩) l.length cap ∧ l.length ≤ cap ∧ cap ≤ maxLen ∧ w.heap[b]? = some (.cells cur 56 (0, 0)) ∧ ∀ i (hi : i < l.length), ∃ x y, CondCell w cur i l[i] x y)
theorem CondsAt.form {w : World} {cv : Value} {l : List Cn} (h : CondsAt w cv l) : ∃ a c, cv = .slice a l.length c := by
  rcases h.2 with ⟨h1, h2⟩ | ⟨b, cap, cur, h1, _⟩
  · exact ⟨none, 0, by rw [h1, h2]; rfl⟩
  · exact ⟨_, _, h1⟩
theorem CondCell.kept {w w' : World} {cur : Array Value} {i : Nat} {c : Cn} {x y : Value} (h : CondCell w cur i c x y) (hk : Kept w w') : CondCell w' cur i c x y :=
  ⟨h.c0, h.c1, h.c2, h.c3, h.c4, h.c5, h.c6, h.lx.kept hk, h.ly.kept hk⟩
theorem CondsAt.kept {w w' : World} {cv : Value} {l : List Cn} (h : CondsAt w cv l) (hk : Kept w w') : CondsAt w' cv l := by
  obtain ⟨h0, h | ⟨b, cap, cur, h1, h2, h3, h4, h5⟩⟩ := h
  · exact ⟨h0, .inl h⟩
  · refine ⟨h0, .inr ⟨b, cap, cur, h1, h2, h3, kh h4 hk, fun i hi => ?_⟩⟩
    obtain ⟨x, y, h6⟩ := h5 i hi
    exact ⟨x, y, h6.kept hk⟩
def fiC (a : Fi) : List Value := [.bool a.is, .int .i64 a.ub, .int .i64 a.at_]
def fis (l : List Fi) : Array Value := (l.flatMap fiC).toArray
def fiVal (a : Fi) : Value := .agg #[.bool a.is, .int .i64 a.ub, .int .i64 a.at_]
theorem fis_at (l : List Fi) (i : Nat) (hi : i < l.length) : (fis l)[i * 3]? = some (.bool l[i].is) ∧ (fis l)[i * 3 + 1]? = some (.int .i64 l[i].ub) ∧ (fis l)[i * 3 + 2]? = some (.int .i64 l[i].at_) := by
  unfold fis
  simp only [List.getElem?_toArray]
  induction l generalizing i with
  | nil => simp at hi
  | cons a l ih =>
    have hc : (a :: l).flatMap fiC = .bool a.is :: .int .i64 a.ub :: .int .i64 a.at_ :: l.flatMap fiC := rfl
    rw [hc]
    cases i with
    | zero => simp
    | succ i =>
      have := ih i (by simpa using hi)
      rw [show (i + 1) * 3 = i * 3 + 3 by omega]
      simpa using this
theorem fis_set (l : List Fi) (i : Nat) (hi : i < l.length) (x : Fi) : (((fis l).setIfInBounds (i * 3) (.bool x.is)).setIfInBounds (i * 3 + 1) (.int .i64 x.ub)).setIfInBounds (i * 3 + 2) (.int .i64 x.at_) = fis (l.set i x) := by
  unfold fis
  simp only [List.setIfInBounds_toArray]
  congr 1
  induction l generalizing i with
  | nil => simp at hi
  | cons a l ih =>
    have hc : ∀ (a : Fi) (l : List Fi), (a :: l).flatMap fiC = .bool a.is :: .int .i64 a.ub :: .int .i64 a.at_ :: l.flatMap fiC := fun _ _ => rfl
    cases i with
    | zero => simp [hc]
    | succ i =>
      have := ih i (by simpa using hi)
      rw [List.set_cons_succ, hc, hc, ← this, show (i + 1) * 3 = i * 3 + 3 by omega]
      simp
def jdCells (cv mv bv ov obv : Value) (E : Env) (n : Nat) (g h : Nat) : Array Value :=
  #[cv, mv, bv, ov, obv, .int .i64 E.res, .int .i64 E.t, .slice (some ⟨g, 0, none⟩) n n, .slice (some ⟨h, 0, none⟩) n n]
/-- The judge lies at q: g, h: the blocks of what is entered, and of the findings; what it was made of lay in w0. -/
structure Jd (w0 w : World) (q : Nat) (cv mv bv ov obv : Value) (l : List Cn) (E : Env) (g h : Nat) (e : List Bool) (a : List Fi) : Prop where
  kept : Kept w0 w
  loq : w0.heap.size ≤ q
  log : w0.heap.size ≤ g ∧ w0.heap.size ≤ h
  box : w.heap[q]? = some (.cells (jdCells cv mv bv ov obv E l.length g h) 133 (0, 0))
  eb : w.heap[g]? = some (.cells (bools e) 4 (0, 0))
  ab : w.heap[h]? = some (.cells (fis a) 95 (0, 0))
  el : e.length = l.length
  al : a.length = l.length
  list : CondsAt w0 cv l
  env : EnvAt w0 mv bv ov obv E
section
variable {w0 w w' : World} {q : Nat} {cv mv bv ov obv : Value} {l : List Cn} {E : Env} {g h : Nat} {e : List Bool} {a : List Fi}
theorem Jd.keep (H : Jd w0 w q cv mv bv ov obv l E g h e a) (hk : Kept w w') : Jd w0 w' q cv mv bv ov obv l E g h e a :=
  ⟨H.kept.trans hk, H.loq, H.log, kh H.box hk, kh H.eb hk, kh H.ab hk, H.el, H.al, H.list, H.env⟩
theorem nt_at {a : List Fi} {i : Nat} (h : i < a.length) : ntF a i = a[i] := by simp [ntF, h]
theorem mk_at {e : List Bool} {i : Nat} (h : i < e.length) : mkF e i = e[i] := by simp [mkF, h]
theorem Jd.fiCells (H : Jd w0 w q cv mv bv ov obv l E g h e a) {i : Nat} (hi : i < l.length) :
    w.cell? ⟨h, i * 3, none⟩ = some (.bool (ntF a i).is) ∧ w.cell? ⟨h, i * 3 + 1, none⟩ = some (.int .i64 (ntF a i).ub) ∧ w.cell? ⟨h, i * 3 + 2, none⟩ = some (.int .i64 (ntF a i).at_) := by
  have hl : i < a.length := by rw [H.al]; exact hi
  obtain ⟨a0, a1, a2⟩ := fis_at a i hl
  rw [nt_at hl]
  exact ⟨bx_cell H.ab _ _ a0, bx_cell H.ab _ _ a1, bx_cell H.ab _ _ a2⟩
theorem Jd.markCell (H : Jd w0 w q cv mv bv ov obv l E g h e a) {i : Nat} (hi : i < l.length) : w.cell? ⟨g, i, none⟩ = some (.bool (mkF e i)) ∧ w.frozen? ⟨g, i, none⟩ = false := by
  have hl : i < e.length := by rw [H.el]; exact hi
  rw [mk_at hl]
  exact ⟨bx_cell H.eb _ _ (bools_at _ _ hl), bx_froz H.eb _⟩
theorem Jd.mark (H : Jd w0 w q cv mv bv ov obv l E g h e a) (i : Nat) : Jd w0 (w.setCell ⟨g, i, none⟩ (.bool true)) q cv mv bv ov obv l E g h (e.set i true) a := by
  have hq := hne H.box H.eb (by decide)
  refine ⟨Below.setCell H.kept (p := ⟨g, i, none⟩) H.log.1 _, H.loq, H.log, (heap_setCell_other _ _ _ _ hq).trans H.box, ?_, ?_, by simpa using H.el, H.al, H.list, H.env⟩
  · rw [heap_setCell_same _ _ _ _ _ _ H.eb, bools_set]
  · rw [heap_setCell_other _ _ _ _ (hne H.ab H.eb (by decide))]; exact H.ab
theorem Jd.note (H : Jd w0 w q cv mv bv ov obv l E g h e a) {i : Nat} (hi : i < l.length) (x : Fi) :
    Jd w0 (((w.setCell ⟨h, i * 3, none⟩ (.bool x.is)).setCell ⟨h, i * 3 + 1, none⟩ (.int .i64 x.ub)).setCell ⟨h, i * 3 + 2, none⟩ (.int .i64 x.at_)) q cv mv bv ov obv l E g h e (a.set i x) := by
  have hl := H.log.2
  have e1 := heap_setCell_same w h (i * 3) _ _ (.bool x.is) H.ab
  have e2 := heap_setCell_same _ h (i * 3 + 1) _ _ (.int .i64 x.ub) e1
  have e3 := heap_setCell_same _ h (i * 3 + 2) _ _ (.int .i64 x.at_) e2
  have ot : ∀ k, k ≠ h → (((w.setCell ⟨h, i * 3, none⟩ (.bool x.is)).setCell ⟨h, i * 3 + 1, none⟩ (.int .i64 x.ub)).setCell ⟨h, i * 3 + 2, none⟩ (.int .i64 x.at_)).heap[k]? = w.heap[k]? := fun k hk => by
    rw [heap_setCell_other _ _ _ _ hk, heap_setCell_other _ _ _ _ hk, heap_setCell_other _ _ _ _ hk]
  refine ⟨((Below.setCell H.kept (p := ⟨h, i * 3, none⟩) hl _).setCell (p := ⟨h, i * 3 + 1, none⟩) hl _).setCell (p := ⟨h, i * 3 + 2, none⟩) hl _, H.loq, H.log, (ot _ (hne H.box H.ab (by decide))).trans H.box, (ot _ (hne H.eb H.ab (by decide))).trans H.eb, ?_, H.el, by simpa using H.al, H.list, H.env⟩
  rw [e3, fis_set _ _ (by rw [H.al]; exact hi)]
theorem put3 {w W : World} {i : Nat} {x0 x1 x2 : Value} {t : TypeId} (a b c : Value) (hi : w.heap.size ≤ i) (hk : Kept w W) (h3 : W.heap[i]? = some (.cells #[x0, x1, x2] t (0, 0))) :
    (((W.setCell ⟨i, 0, none⟩ a).setCell ⟨i, 1, none⟩ b).setCell ⟨i, 2, none⟩ c).heap[i]? = some (.cells #[a, b, c] t (0, 0)) ∧ Kept w (((W.setCell ⟨i, 0, none⟩ a).setCell ⟨i, 1, none⟩ b).setCell ⟨i, 2, none⟩ c) := by
  have e1 := heap_setCell_same W i 0 _ _ a h3
  have e2 := heap_setCell_same _ i 1 _ _ b e1
  have e3 := heap_setCell_same _ i 2 _ _ c e2
  exact ⟨by simpa using e3, ((Below.setCell hk (p := ⟨i, 0, none⟩) hi _).setCell (p := ⟨i, 1, none⟩) hi _).setCell (p := ⟨i, 2, none⟩) hi _⟩
set_option maxRecDepth 100000 in
set_option maxHeartbeats 4000000 in
theorem jtold_any (H : Jd w0 w q cv mv bv ov obv l E g h e a) (k : Int) : Calls Try.prog 37 #[.pointer (some ⟨q, 0, none⟩), .int .i64 k] w fun x w' => x = .returned (fiVal (tldA l a k)) ∧ Kept w w' := by
  obtain ⟨la, lc, hlv⟩ := H.list.form
  have hn := H.list.1
  subst hlv
  unfold tldA
  by_cases h0 : k < 0
  · rw [if_neg (by omega)]
    unfold fiVal Fi.none
    go_enter Try.func37, Try.ntmps37
    go_upto_region 1 with fail
    have x0 := World.alloc_heap_new w (.cells #[.bool false, .int .i64 0, .int .i64 0] 95)
    have kW := (Kept.refl w).alloc (.cells #[.bool false, .int .i64 0, .int .i64 0] 95)
    generalize w.alloc (.cells #[.bool false, .int .i64 0, .int .i64 0] 95) = W at *
    have r0 := bx_cell x0 0 _ rfl
    have r1 := bx_cell x0 1 _ rfl
    have r2 := bx_cell x0 2 _ rfl
    have rf := bx_froz x0
    have hB := kh H.box kW
    have c0 := bx_cell hB 0 _ rfl
    simp only [jdCells] at c0
    have X := Lib.hid x0
    have KW := Lib.hid kW
    clear x0 kW hB H
    go_wp2
    have s := put3 (w := w) (W := W) (i := w.heap.size) (.bool false) (.int .i64 0) (.int .i64 0) (by omega) KW.out X.out
    have z0 := bx_cell s.1 0 _ rfl
    have z1 := bx_cell s.1 1 _ rfl
    have z2 := bx_cell s.1 2 _ rfl
    have S := Lib.hid s.2
    clear s
    simp [bodyPost, results, Try.f37, go_sem, z0, z1, z2]
    exact S.out
  by_cases h1 : (l.length : Int) ≤ k
  · have h0' : (0 : Int) ≤ k := by omega
    rw [if_neg (by omega)]
    unfold fiVal Fi.none
    go_enter Try.func37, Try.ntmps37
    go_upto_region 1 with fail
    have x0 := World.alloc_heap_new w (.cells #[.bool false, .int .i64 0, .int .i64 0] 95)
    have kW := (Kept.refl w).alloc (.cells #[.bool false, .int .i64 0, .int .i64 0] 95)
    generalize w.alloc (.cells #[.bool false, .int .i64 0, .int .i64 0] 95) = W at *
    have r0 := bx_cell x0 0 _ rfl
    have r1 := bx_cell x0 1 _ rfl
    have r2 := bx_cell x0 2 _ rfl
    have rf := bx_froz x0
    have hB := kh H.box kW
    have c0 := bx_cell hB 0 _ rfl
    simp only [jdCells] at c0
    have X := Lib.hid x0
    have KW := Lib.hid kW
    clear x0 kW hB H
    go_wp2
    have s := put3 (w := w) (W := W) (i := w.heap.size) (.bool false) (.int .i64 0) (.int .i64 0) (by omega) KW.out X.out
    have z0 := bx_cell s.1 0 _ rfl
    have z1 := bx_cell s.1 1 _ rfl
    have z2 := bx_cell s.1 2 _ rfl
    have S := Lib.hid s.2
    clear s
    simp [bodyPost, results, Try.f37, go_sem, z0, z1, z2]
    exact S.out
  obtain ⟨i, rfl⟩ := Int.eq_ofNat_of_zero_le (by omega : 0 ≤ k)
  have hi : i < l.length := by omega
  rw [if_pos (by omega)]
  simp only [Int.toNat_natCast]
  have hA := fun (w' : World) (hk : Kept w w') => (H.keep hk).fiCells hi
  unfold fiVal
  generalize ntF a i = V at *
  have hi1 : ((i : Int) < (l.length : Int)) := by omega
  have hlc : (1 : Nat) ≤ l.length := by omega
  clear h0 h1
  go_enter Try.func37, Try.ntmps37
  go_upto_region 1 with fail
  have x0 := World.alloc_heap_new w (.cells #[.bool false, .int .i64 0, .int .i64 0] 95)
  have kW := (Kept.refl w).alloc (.cells #[.bool false, .int .i64 0, .int .i64 0] 95)
  generalize w.alloc (.cells #[.bool false, .int .i64 0, .int .i64 0] 95) = W at *
  have r0 := bx_cell x0 0 _ rfl
  have r1 := bx_cell x0 1 _ rfl
  have r2 := bx_cell x0 2 _ rfl
  have rf := bx_froz x0
  have hB := kh H.box kW
  have c0 := bx_cell hB 0 _ rfl
  have c8 := bx_cell hB 8 _ rfl
  simp only [jdCells] at c0 c8
  obtain ⟨v0, v1, v2⟩ := hA _ kW
  have X := Lib.hid x0
  have KW := Lib.hid kW
  clear x0 kW hB H hA
  have hnn : ((i : Int) < 0) = False := by simp
  have hnb : decide ((i : Int) < 0) = false := by simp
  go_wp2
  have s := put3 (w := w) (W := W) (i := w.heap.size) (.bool V.is) (.int .i64 V.ub) (.int .i64 V.at_) (by omega) KW.out X.out
  have z0 := bx_cell s.1 0 _ rfl
  have z1 := bx_cell s.1 1 _ rfl
  have z2 := bx_cell s.1 2 _ rfl
  have S := Lib.hid s.2
  clear s
  simp [bodyPost, results, Try.f37, go_sem, z0, z1, z2]
  exact S.out
end
end Go.Proofs.Ytnlkcjbnmkpnhaa.Evl
