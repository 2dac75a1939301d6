/-
  Package eval's reckoner in memory (Rk), and its methods told, enter, kids.
-/
import Derived.Test.YthjnkjekidagiaaEvP
namespace Go.Proofs.Ythjnkjekidagiaa.Evl
open Go.RowKit
open Prs (Ex)
open Fnd (bx_cell bx_froz)

def exC (e : Ex) : List Value := Rpr.exCell e
/-- A list of nodes lies in memory. -/
def ListAt (w : World) (lv : Value) (l : List Ex) : Prop :=
  l.length ≤ 8193 ∧ ((lv = .slice none 0 0 ∧ l = []) ∨ ∃ b cap cur, lv = .slice (some ⟨b, 0, none⟩) l.length cap ∧ l.length ≤ cap ∧ cap ≤ maxLen ∧ w.heap[b]? = some (.cells cur 146 (0, 0)) ∧ ∀ i (hi : i < l.length),
    cur[i * 7]? = some (.int .i64 l[i].kind) ∧ cur[i * 7 + 1]? = some (.int .i64 l[i].num) ∧ cur[i * 7 + 2]? = some (.int .i64 l[i].ty) ∧ cur[i * 7 + 3]? = some (.string ⟨l[i].name.toArray⟩) ∧ cur[i * 7 + 4]? = some (.int .i64 l[i].a) ∧ cur[i * 7 + 5]? = some (.int .i64 l[i].b) ∧ cur[i * 7 + 6]? = some (.int .i64 l[i].place))
theorem ListAt.form {w : World} {lv : Value} {l : List Ex} (h : ListAt w lv l) : ∃ a c, lv = .slice a l.length c := by
  rcases h.2 with ⟨h1, h2⟩ | ⟨b, cap, cur, h1, _⟩
  · exact ⟨none, 0, by rw [h1, h2]; rfl⟩
  · exact ⟨_, _, h1⟩
theorem ListAt.kept {w w' : World} {lv : Value} {l : List Ex} (h : ListAt w lv l) (hk : Kept w w') : ListAt w' lv l := by
  obtain ⟨h0, h | ⟨b, cap, cur, h1, h2, h3, h4, h5⟩⟩ := h
  · exact ⟨h0, .inl h⟩
  · exact ⟨h0, .inr ⟨b, cap, cur, h1, h2, h3, kh h4 hk, h5⟩⟩
def bools (l : List Bool) : Array Value := (l.map Value.bool).toArray
def ansC (a : Ans) : List Value := [.int .i64 a.v, .int .i64 a.t, .int .i64 a.ub, .int .i64 a.at_]
def anss (l : List Ans) : Array Value := (l.flatMap ansC).toArray
theorem bools_at (l : List Bool) (i : Nat) (hi : i < l.length) : (bools l)[i]? = some (.bool l[i]) := by simp [bools, hi]
theorem bools_set (l : List Bool) (i : Nat) (b : Bool) : (bools l).setIfInBounds i (.bool b) = bools (l.set i b) := by simp [bools, List.map_set]
theorem anss_at (l : List Ans) (i : Nat) (hi : i < l.length) : (anss l)[i * 4]? = some (.int .i64 l[i].v) ∧ (anss l)[i * 4 + 1]? = some (.int .i64 l[i].t) ∧ (anss l)[i * 4 + 2]? = some (.int .i64 l[i].ub) ∧ (anss l)[i * 4 + 3]? = some (.int .i64 l[i].at_) := by
  unfold anss
  simp only [List.getElem?_toArray]
  induction l generalizing i with
  | nil => simp at hi
  | cons a l ih =>
    have hc : (a :: l).flatMap ansC = .int .i64 a.v :: .int .i64 a.t :: .int .i64 a.ub :: .int .i64 a.at_ :: l.flatMap ansC := rfl
    rw [hc]
    cases i with
    | zero => simp
    | succ i =>
      have := ih i (by simpa using hi)
      rw [show (i + 1) * 4 = i * 4 + 4 by omega]
      simpa using this
theorem anss_set (l : List Ans) (i : Nat) (hi : i < l.length) (x : Ans) : ((((anss l).setIfInBounds (i * 4) (.int .i64 x.v)).setIfInBounds (i * 4 + 1) (.int .i64 x.t)).setIfInBounds (i * 4 + 2) (.int .i64 x.ub)).setIfInBounds (i * 4 + 3) (.int .i64 x.at_) = anss (l.set i x) := by
  unfold anss
  simp only [List.setIfInBounds_toArray]
  congr 1
  induction l generalizing i with
  | nil => simp at hi
  | cons a l ih =>
    have hc : ∀ (a : Ans) (l : List Ans), (a :: l).flatMap ansC = .int .i64 a.v :: .int .i64 a.t :: .int .i64 a.ub :: .int .i64 a.at_ :: l.flatMap ansC := fun _ _ => rfl
    cases i with
    | zero => simp [hc]
    | succ i =>
      have := ih i (by simpa using hi)
      rw [List.set_cons_succ, hc, hc, ← this, show (i + 1) * 4 = i * 4 + 4 by omega]
      simp
def rkCells (lv mv bv ov obv : Value) (E : Env) (n : Nat) (g h : Nat → Nat) : Array Value :=
  #[lv, mv, bv, ov, obv, .int .i64 E.res, .int .i64 E.t, ov, obv, ov, obv, .int .i64 E.res, .int .i64 E.t, .slice (some ⟨g 0, 0, none⟩) n n, .slice (some ⟨g 1, 0, none⟩) n n, .slice (some ⟨h 0, 0, none⟩) n n, .slice (some ⟨h 1, 0, none⟩) n n]
/-- The reckoner lies at q: g, h: the blocks of what is entered, and of the answers; what it was made of lay in w0. -/
structure Rk (w0 w : World) (q : Nat) (lv mv bv ov obv : Value) (l : List Ex) (E : Env) (g h : Nat → Nat) (e : Nat → List Bool) (a : Nat → List Ans) : Prop where
  kept : Kept w0 w
  loq : w0.heap.size ≤ q
  log : ∀ t, t < 2 → w0.heap.size ≤ g t ∧ w0.heap.size ≤ h t
  box : w.heap[q]? = some (.cells (rkCells lv mv bv ov obv E l.length g h) 154 (0, 0))
  eb : ∀ t, t < 2 → w.heap[g t]? = some (.cells (bools (e t)) 4 (0, 0))
  ab : ∀ t, t < 2 → w.heap[h t]? = some (.cells (anss (a t)) 124 (0, 0))
  el : ∀ t, t < 2 → (e t).length = l.length
  al : ∀ t, t < 2 → (a t).length = l.length
  ne : g 0 ≠ g 1 ∧ h 0 ≠ h 1
  list : ListAt w0 lv l
  env : EnvAt w0 mv bv ov obv E
section
variable {w0 w w' : World} {q : Nat} {lv mv bv ov obv : Value} {l : List Ex} {E : Env} {g h : Nat → Nat} {e : Nat → List Bool} {a : Nat → List Ans}
theorem Rk.keep (H : Rk w0 w q lv mv bv ov obv l E g h e a) (hk : Kept w w') : Rk w0 w' q lv mv bv ov obv l E g h e a :=
  ⟨H.kept.trans hk, H.loq, H.log, kh H.box hk, fun t ht => kh (H.eb t ht) hk, fun t ht => kh (H.ab t ht) hk, H.el, H.al, H.ne, H.list, H.env⟩
def spotV (k : Int × Nat) : Value := .agg #[.int .i64 k.1, .int .i64 k.2]

theorem two (w : World) (o0 o1 : Obj) : ((w.alloc o0).alloc o1).heap[w.heap.size]? = some o0 ∧ ((w.alloc o0).alloc o1).heap[w.heap.size + 1]? = some o1 ∧ Kept w ((w.alloc o0).alloc o1) := by
  have e (w : World) (o : Obj) : (w.alloc o).heap[w.heap.size]? = some o := World.alloc_heap_new w o
  refine ⟨?_, ?_, ((Kept.refl w).alloc _).alloc _⟩
  · rw [Below.heap_alloc _ _ _ (by simp <;> omega)]; exact e w o0
  · have := e (w.alloc o0) o1; simpa using this
theorem note_at {a : Nat → List Ans} {i t : Nat} (h : i < (a t).length) : noteF a (i, t) = (a t)[i] := by simp [noteF, h]
/-- The cells of one answer. -/
theorem Rk.ansCells (H : Rk w0 w q lv mv bv ov obv l E g h e a) {i t : Nat} (ht : t < 2) (hi : i < l.length) :
    w.cell? ⟨h t, i * 4, none⟩ = some (.int .i64 (noteF a (i, t)).v) ∧ w.cell? ⟨h t, i * 4 + 1, none⟩ = some (.int .i64 (noteF a (i, t)).t) ∧ w.cell? ⟨h t, i * 4 + 2, none⟩ = some (.int .i64 (noteF a (i, t)).ub) ∧ w.cell? ⟨h t, i * 4 + 3, none⟩ = some (.int .i64 (noteF a (i, t)).at_) := by
  have hl : i < (a t).length := by rw [H.al t ht]; exact hi
  obtain ⟨a0, a1, a2, a3⟩ := anss_at (a t) i hl
  rw [note_at hl]
  exact ⟨bx_cell (H.ab t ht) _ _ a0, bx_cell (H.ab t ht) _ _ a1, bx_cell (H.ab t ht) _ _ a2, bx_cell (H.ab t ht) _ _ a3⟩
set_option maxRecDepth 100000 in
set_option maxHeartbeats 4000000 in
theorem told_any (H : Rk w0 w q lv mv bv ov obv l E g h e a) (k : Int × Nat) (ht : k.2 < 2) : Calls Try.prog 89 #[.pointer (some ⟨q, 0, none⟩), spotV k] w fun e w' => e = .returned (ansVal (toldA l a k)) ∧ Kept w w' := by
  obtain ⟨x, t⟩ := k
  obtain ⟨la, lc, hlv⟩ := H.list.form
  have hn := H.list.1
  subst hlv
  have HA := Lib.hid (fun w => absent_any w)
  unfold ansVal Ans.none at HA
  unfold toldA spotV
  simp only at ht ⊢
  by_cases h0 : x < 0
  · skip
    rw [if_neg (by omega)]
    unfold ansVal Ans.none
    go_enter Try.func89, Try.ntmps89
    go_upto_region 1 with fail
    obtain ⟨x0, x1, kW⟩ := two w (.cells #[.int .i64 x, .int .i64 t] 139) (.cells #[.int .i64 0, .int .i64 0, .int .i64 0, .int .i64 0] 124)
    generalize ((w.alloc (.cells #[.int .i64 x, .int .i64 t] 139)).alloc (.cells #[.int .i64 0, .int .i64 0, .int .i64 0, .int .i64 0] 124)) = W at *
    have s0 := bx_cell x0 0 _ rfl
    have s1 := bx_cell x0 1 _ rfl
    have r0 := bx_cell x1 0 _ rfl
    have r1 := bx_cell x1 1 _ rfl
    have r2 := bx_cell x1 2 _ rfl
    have r3 := bx_cell x1 3 _ rfl
    have rf := bx_froz x1
    have hB := kh H.box kW
    have c0 := bx_cell hB 0 _ rfl
    simp only [rkCells] at c0
    have X := Lib.hid x1
    have KW := Lib.hid kW
    clear x0 x1 kW hB H
    go_region
    go_wp2_with (go_at_call 94; refine (HA.out _).mono ?_; rintro e w7 ⟨rfl, k7⟩; have k8 := (Kept.refl W).drew.trans k7; have y := kh X.out k8; have r0' := bx_cell y 0 _ rfl; have r1' := bx_cell y 1 _ rfl; have r2' := bx_cell y 2 _ rfl; have r3' := bx_cell y 3 _ rfl; have rf' := bx_froz y; have Y := Lib.hid y; have KY := Lib.hid (KW.out.trans k8); clear k7 k8 y)
    have s := put4 (w := w) (W := w7) (i := w.heap.size + 1) (.int .i64 0) (.int .i64 5) (.int .i64 0) (.int .i64 0) (by omega) KY.out Y.out
    have z0 := bx_cell s.1 0 _ rfl
    have z1 := bx_cell s.1 1 _ rfl
    have z2 := bx_cell s.1 2 _ rfl
    have z3 := bx_cell s.1 3 _ rfl
    have S := Lib.hid s.2
    clear s
    simp [bodyPost, results, Try.f89, go_sem, z0, z1, z2, z3]
    exact S.out
  by_cases h1 : (l.length : Int) ≤ x
  · have h0' : (0 : Int) ≤ x := by omega
    rw [if_neg (by omega)]
    unfold ansVal Ans.none
    go_enter Try.func89, Try.ntmps89
    go_upto_region 1 with fail
    obtain ⟨x0, x1, kW⟩ := two w (.cells #[.int .i64 x, .int .i64 t] 139) (.cells #[.int .i64 0, .int .i64 0, .int .i64 0, .int .i64 0] 124)
    generalize ((w.alloc (.cells #[.int .i64 x, .int .i64 t] 139)).alloc (.cells #[.int .i64 0, .int .i64 0, .int .i64 0, .int .i64 0] 124)) = W at *
    have s0 := bx_cell x0 0 _ rfl
    have s1 := bx_cell x0 1 _ rfl
    have r0 := bx_cell x1 0 _ rfl
    have r1 := bx_cell x1 1 _ rfl
    have r2 := bx_cell x1 2 _ rfl
    have r3 := bx_cell x1 3 _ rfl
    have rf := bx_froz x1
    have hB := kh H.box kW
    have c0 := bx_cell hB 0 _ rfl
    simp only [rkCells] at c0
    have X := Lib.hid x1
    have KW := Lib.hid kW
    clear x0 x1 kW hB H
    go_region
    go_wp2_with (go_at_call 94; refine (HA.out _).mono ?_; rintro e w7 ⟨rfl, k7⟩; have k8 := (Kept.refl W).drew.trans k7; have y := kh X.out k8; have r0' := bx_cell y 0 _ rfl; have r1' := bx_cell y 1 _ rfl; have r2' := bx_cell y 2 _ rfl; have r3' := bx_cell y 3 _ rfl; have rf' := bx_froz y; have Y := Lib.hid y; have KY := Lib.hid (KW.out.trans k8); clear k7 k8 y)
    have s := put4 (w := w) (W := w7) (i := w.heap.size + 1) (.int .i64 0) (.int .i64 5) (.int .i64 0) (.int .i64 0) (by omega) KY.out Y.out
    have z0 := bx_cell s.1 0 _ rfl
    have z1 := bx_cell s.1 1 _ rfl
    have z2 := bx_cell s.1 2 _ rfl
    have z3 := bx_cell s.1 3 _ rfl
    have S := Lib.hid s.2
    clear s
    simp [bodyPost, results, Try.f89, go_sem, z0, z1, z2, z3]
    exact S.out
  obtain ⟨i, rfl⟩ := Int.eq_ofNat_of_zero_le (by omega : 0 ≤ x)
  have hi : i < l.length := by omega
  rw [if_pos (by omega)]
  simp only [Int.toNat_natCast]
  have hA := fun (w' : World) (hk : Kept w w') => (H.keep hk).ansCells ht hi
  unfold ansVal
  generalize noteF a (i, t) = V at *
  have hi1 : ((i : Int) < (l.length : Int)) := by omega
  have hlc : (1 : Nat) ≤ l.length := by omega
  clear h0 h1
  rcases (show t = 0 ∨ t = 1 by omega) with rfl | rfl
  · go_enter Try.func89, Try.ntmps89
    go_upto_region 1 with fail
    obtain ⟨x0, x1, kW⟩ := two w (.cells #[.int .i64 i, .int .i64 0] 139) (.cells #[.int .i64 0, .int .i64 0, .int .i64 0, .int .i64 0] 124)
    generalize ((w.alloc (.cells #[.int .i64 i, .int .i64 0] 139)).alloc (.cells #[.int .i64 0, .int .i64 0, .int .i64 0, .int .i64 0] 124)) = W at *
    have s0 := bx_cell x0 0 _ rfl
    have s1 := bx_cell x0 1 _ rfl
    have r0 := bx_cell x1 0 _ rfl
    have r1 := bx_cell x1 1 _ rfl
    have r2 := bx_cell x1 2 _ rfl
    have r3 := bx_cell x1 3 _ rfl
    have rf := bx_froz x1
    have hB := kh H.box kW
    have c0 := bx_cell hB 0 _ rfl
    simp only [rkCells] at c0
    have X := Lib.hid x1
    have KW := Lib.hid kW
    have c15 := bx_cell hB 15 _ rfl
    simp only [rkCells] at c15
    obtain ⟨v0, v1, v2, v3⟩ := hA _ kW
    clear x0 x1 kW hB H hA
    have hnn : ((i : Int) < 0) = False := by simp
    have hnb : decide ((i : Int) < 0) = false := by simp
    go_region
    go_wp2
    go_region
    go_wp2
    have s := put4 (w := w) (W := W) (i := w.heap.size + 1) (.int .i64 V.v) (.int .i64 V.t) (.int .i64 V.ub) (.int .i64 V.at_) (by omega) KW.out X.out
    have z0 := bx_cell s.1 0 _ rfl
    have z1 := bx_cell s.1 1 _ rfl
    have z2 := bx_cell s.1 2 _ rfl
    have z3 := bx_cell s.1 3 _ rfl
    have S := Lib.hid s.2.drew.drew
    clear s
    simp [bodyPost, results, Try.f89, go_sem, z0, z1, z2, z3]
    exact S.out
  · go_enter Try.func89, Try.ntmps89
    go_upto_region 1 with fail
    obtain ⟨x0, x1, kW⟩ := two w (.cells #[.int .i64 i, .int .i64 1] 139) (.cells #[.int .i64 0, .int .i64 0, .int .i64 0, .int .i64 0] 124)
    generalize ((w.alloc (.cells #[.int .i64 i, .int .i64 1] 139)).alloc (.cells #[.int .i64 0, .int .i64 0, .int .i64 0, .int .i64 0] 124)) = W at *
    have s0 := bx_cell x0 0 _ rfl
    have s1 := bx_cell x0 1 _ rfl
    have r0 := bx_cell x1 0 _ rfl
    have r1 := bx_cell x1 1 _ rfl
    have r2 := bx_cell x1 2 _ rfl
    have r3 := bx_cell x1 3 _ rfl
    have rf := bx_froz x1
    have hB := kh H.box kW
    have c0 := bx_cell hB 0 _ rfl
    simp only [rkCells] at c0
    have X := Lib.hid x1
    have KW := Lib.hid kW
    have c15 := bx_cell hB 16 _ rfl
    simp only [rkCells] at c15
    obtain ⟨v0, v1, v2, v3⟩ := hA _ kW
    clear x0 x1 kW hB H hA
    have hnn : ((i : Int) < 0) = False := by simp
    have hnb : decide ((i : Int) < 0) = false := by simp
    go_region
    go_wp2
    go_region
    go_wp2
    have s := put4 (w := w) (W := W) (i := w.heap.size + 1) (.int .i64 V.v) (.int .i64 V.t) (.int .i64 V.ub) (.int .i64 V.at_) (by omega) KW.out X.out
    have z0 := bx_cell s.1 0 _ rfl
    have z1 := bx_cell s.1 1 _ rfl
    have z2 := bx_cell s.1 2 _ rfl
    have z3 := bx_cell s.1 3 _ rfl
    have S := Lib.hid s.2.drew.drew
    clear s
    simp [bodyPost, results, Try.f89, go_sem, z0, z1, z2, z3]
    exact S.out
theorem hne {w : World} {a b : Nat} {c c' : Array Value} {t t' : TypeId} (h : w.heap[a]? = some (.cells c t (0, 0))) (h' : w.heap[b]? = some (.cells c' t' (0, 0))) (hn : t ≠ t') : a ≠ b := by
  intro e; subst e; rw [h] at h'; injection h' with h'; injection h' with _ h' _; exact hn h'
theorem Rk.g_ne (H : Rk w0 w q lv mv bv ov obv l E g h e a) {s t : Nat} (hs : s < 2) (ht : t < 2) (hst : s ≠ t) : g s ≠ g t ∧ h s ≠ h t := by
  rcases (show (s = 0 ∧ t = 1) ∨ (s = 1 ∧ t = 0) by omega) with ⟨rfl, rfl⟩ | ⟨rfl, rfl⟩
  · exact H.ne
  · exact ⟨H.ne.1.symm, H.ne.2.symm⟩
theorem Rk.mark (H : Rk w0 w q lv mv bv ov obv l E g h e a) {i t : Nat} (ht : t < 2) : Rk w0 (w.setCell ⟨g t, i, none⟩ (.bool true)) q lv mv bv ov obv l E g h (updF e (i, t) true) a := by
  have hq := hne H.box (H.eb t ht) (by decide)
  refine ⟨Below.setCell H.kept (p := ⟨g t, i, none⟩) (H.log t ht).1 _, H.loq, H.log, (heap_setCell_other _ _ _ _ hq).trans H.box, fun s hs => ?_, fun s hs => ?_, fun s hs => by rw [upd_len]; exact H.el s hs, H.al, H.ne, H.list, H.env⟩
  · unfold updF
    by_cases hst : s = t
    · subst hst
      rw [if_pos rfl, heap_setCell_same _ _ _ _ _ _ (H.eb s hs), bools_set]
    · rw [if_neg hst, heap_setCell_other _ _ _ _ (H.g_ne hs ht hst).1]; exact H.eb s hs
  · rw [heap_setCell_other _ _ _ _ (hne (H.ab s hs) (H.eb t ht) (by decide))]; exact H.ab s hs
theorem Rk.note (H : Rk w0 w q lv mv bv ov obv l E g h e a) {i t : Nat} (ht : t < 2) (hi : i < l.length) (x : Ans) :
    Rk w0 ((((w.setCell ⟨h t, i * 4, none⟩ (.int .i64 x.v)).setCell ⟨h t, i * 4 + 1, none⟩ (.int .i64 x.t)).setCell ⟨h t, i * 4 + 2, none⟩ (.int .i64 x.ub)).setCell ⟨h t, i * 4 + 3, none⟩ (.int .i64 x.at_)) q lv mv bv ov obv l E g h e (updF a (i, t) x) := by
  have hl := (H.log t ht).2
  have e1 := heap_setCell_same w (h t) (i * 4) _ _ (.int .i64 x.v) (H.ab t ht)
  have e2 := heap_setCell_same _ (h t) (i * 4 + 1) _ _ (.int .i64 x.t) e1
  have e3 := heap_setCell_same _ (h t) (i * 4 + 2) _ _ (.int .i64 x.ub) e2
  have e4 := heap_setCell_same _ (h t) (i * 4 + 3) _ _ (.int .i64 x.at_) e3
  have ot : ∀ k, k ≠ h t → ((((w.setCell ⟨h t, i * 4, none⟩ (.int .i64 x.v)).setCell ⟨h t, i * 4 + 1, none⟩ (.int .i64 x.t)).setCell ⟨h t, i * 4 + 2, none⟩ (.int .i64 x.ub)).setCell ⟨h t, i * 4 + 3, none⟩ (.int .i64 x.at_)).heap[k]? = w.heap[k]? := fun k hk => by
    rw [heap_setCell_other _ _ _ _ hk, heap_setCell_other _ _ _ _ hk, heap_setCell_other _ _ _ _ hk, heap_setCell_other _ _ _ _ hk]
  refine ⟨(((Below.setCell H.kept (p := ⟨h t, i * 4, none⟩) hl _).setCell (p := ⟨h t, i * 4 + 1, none⟩) hl _).setCell (p := ⟨h t, i * 4 + 2, none⟩) hl _).setCell (p := ⟨h t, i * 4 + 3, none⟩) hl _, H.loq, H.log, (ot _ (hne H.box (H.ab t ht) (by decide))).trans H.box, fun s hs => (ot _ (hne (H.eb s hs) (H.ab t ht) (by decide))).trans (H.eb s hs), fun s hs => ?_, H.el, fun s hs => by rw [upd_len]; exact H.al s hs, H.ne, H.list, H.env⟩
  unfold updF
  by_cases hst : s = t
  · subst hst
    rw [if_pos rfl, e4, anss_set _ _ (by rw [H.al s hs]; exact hi)]
  · rw [if_neg hst]; exact (ot _ (H.g_ne hs ht hst).2).trans (H.ab s hs)
theorem mark_at {e : Nat → List Bool} {i t : Nat} (h : i < (e t).length) : markF e (i, t) = (e t)[i] := by simp [markF, h]
theorem Rk.markCell (H : Rk w0 w q lv mv bv ov obv l E g h e a) {i t : Nat} (ht : t < 2) (hi : i < l.length) : w.cell? ⟨g t, i, none⟩ = some (.bool (markF e (i, t))) ∧ w.frozen? ⟨g t, i, none⟩ = false := by
  have hl : i < (e t).length := by rw [H.el t ht]; exact hi
  rw [mark_at hl]
  exact ⟨bx_cell (H.eb t ht) _ _ (bools_at _ _ hl), bx_froz (H.eb t ht) _⟩
end
end Go.Proofs.Ythjnkjekidagiaa.Evl
