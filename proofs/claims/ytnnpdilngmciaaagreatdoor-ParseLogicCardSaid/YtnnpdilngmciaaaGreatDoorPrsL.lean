/-
  The contract of parse.Cond.
-/
import Derived.Test.YtnnpdilngmciaaaGreatDoorPrsK
import Derived.Test.YtnnpdilngmciaaaGreatDoorLexQ
namespace Go.Proofs.YtnnpdilngmciaaaGreatDoor.Prs
open Go.RowKit
open Lex (Tok Laid lst lexF lexTo cellsOf)

theorem lexTo_small (f : Nat) (l : List UInt8) (k : Nat) (ts : List Tok) (h : lexTo f l k = .toks ts) : ∀ t ∈ ts, t.text.length ≤ l.length ∧ t.place ≤ k + l.length ∧ t.kind ≤ 4 := by
  induction f generalizing l k ts with
  | zero => simp [lexTo] at h
  | succ f ih =>
    unfold lexTo at h
    have hg := Lex.gap_le false l
    split at h
    · cases h
    · injection h with h; subst h
      intro t ht
      simp only [List.mem_singleton] at ht
      subst ht
      exact ⟨by simp, by simp; omega, by simp⟩
    · rename_i q n hsc
      have hs := Lex.scan_le _ _ _ hsc
      cases hr : lexTo f (l.drop (Lex.gapG false l + n)) (k + Lex.gapG false l + n) with
      | bad b a => rw [hr] at h; cases h
      | toks us =>
        rw [hr] at h
        simp only [Lex.Lx.pre] at h
        injection h with h
        subst h
        intro t ht
        simp only [List.cons_append, List.nil_append, List.mem_cons] at ht
        have h1 := hs.1
        simp only [List.length_drop] at h1
        rcases ht with rfl | ht
        · exact ⟨by simp; omega, by simp; omega, by have := hs.2.2.2; simpa using this⟩
        · have := ih _ _ _ hr t ht
          simp only [List.length_drop] at this
          exact ⟨by omega, by omega, this.2.2⟩
theorem lexTo_len (f : Nat) (l : List UInt8) (k : Nat) (ts : List Tok) (h : lexTo f l k = .toks ts) : ts.length ≤ f := by
  induction f generalizing l k ts with
  | zero => simp [lexTo] at h
  | succ f ih =>
    unfold lexTo at h
    split at h
    · cases h
    · injection h with h; subst h; simp
    · rename_i q n hsc
      cases hr : lexTo f (l.drop (Lex.gapG false l + n)) (k + Lex.gapG false l + n) with
      | bad b a => rw [hr] at h; cases h
      | toks us =>
        rw [hr] at h
        simp only [Lex.Lx.pre] at h
        injection h with h
        subst h
        have := ih _ _ _ hr
        simp; omega
theorem lex_len {l : List UInt8} {ts : List Tok} (h : lexF l = .toks ts) : ts.length ≤ 8193 ∧ 0 < ts.length := by
  unfold lexF at h
  split at h
  · cases h
  · have := lexTo_len _ _ _ _ h
    have h2 := Lex.lexTo_ne _ _ _ _ h
    exact ⟨by omega, List.length_pos_iff.2 h2⟩
theorem lex_small {l : List UInt8} {ts : List Tok} (h : lexF l = .toks ts) : l.length ≤ 8192 ∧ ∀ t ∈ ts, t.text.length ≤ 8192 ∧ t.place ≤ 8192 ∧ t.kind ≤ 4 := by
  unfold lexF at h
  split at h
  · cases h
  · rename_i hl
    refine ⟨by omega, fun t ht => ?_⟩
    have := lexTo_small _ _ _ _ h t ht
    exact ⟨by omega, by omega, this.2.2⟩
theorem rd_of {w1 : World} {pL pW : Addr} {l : List UInt8} {ts : List Tok} {cap G : Nat} {cur : Array Value} {B : Nat} (hL : Laid w1 pL pW) (h : lexF l = .toks ts) (hlen : ts.length ≤ 8193) (hG : w1.heap[G]? = some (.cells cur 73 (0, 0))) (hcap : ts.length ≤ cap) (hm : cap ≤ maxLen) (htk : cur.toList.take (ts.length * 3) = cellsOf ts)
    (hB : B ≤ w1.heap.size) (h1 : pL.block < B) (h2 : pW.block < B) (h3 : 0 < B ∧ 1 < B ∧ 2 < B) :
    Rd B G (w1.alloc (.cells #[.slice (some ⟨G, 0, none⟩) ts.length cap, .int .i64 0, .int .i64 0, .int .i64 0, .int .i64 0] 66)) w1.heap.size ts 0 none := by
  refine ⟨⟨ts.length, cap, 0, cur, heap_alloc_new _ _, (Below.heap_alloc _ _ _ (box_lt hG)).trans hG, by simp, hcap, hm, hlen, fun i hi => ?_⟩, hB, by simpa using hlen, (lex_small h).2, pL, pW, hL.kept ((Kept.refl w1).alloc _), h1, h2, h3⟩
  have hcell : ∀ (j : Nat) (u : Value), (cellsOf ts)[j]? = some u → cur[j]? = some u := by
    intro j u hj
    rw [← htk, List.getElem?_take] at hj
    split at hj
    · simpa using hj
    · cases hj
  obtain ⟨a, b, c⟩ := Lex.cells_get ts i hi
  simp only [Nat.zero_add]
  exact ⟨hcell _ _ a, hcell _ _ b, hcell _ _ c⟩

theorem CnCells.base {w : World} {B B' : Nat} {l : List Cn} {xs : List Value} (h : CnCells w B l xs) (hB : B' ≤ B) : CnCells w B' l xs := by
  induction l generalizing xs with
  | nil => exact h
  | cons c l ih =>
    obtain ⟨x, y, rest, e, h1, h2, h3⟩ := h
    exact ⟨x, y, rest, e, own_from h1 (fun g hg => by have := (h1.lt g hg).1; omega), own_from h2 (fun g hg => by have := (h2.lt g hg).1; omega), ih h3⟩
theorem CnOwn.chg {S : Nat → Prop} {w w' : World} {B : Nat} {v : Value} {l : List Cn} (h : CnOwn w B v l) (hc : Chg S w w') (hn : ∀ g c t, w.heap[g]? = some (.cells c t (0, 0)) → t = 33 ∨ t = 35 → ¬ S g) : CnOwn w' B v l := by
  obtain ⟨xs, h1, h2⟩ := h
  exact ⟨xs, own_chg h1 hc (fun g hg => by obtain ⟨c, hc⟩ := own_ty h1 hg; exact hn g c _ hc (.inl rfl)), h2.chg hc (fun g c hg => hn g c _ hg (.inr rfl))⟩
theorem CnOwn.kept {w w' : World} {B : Nat} {v : Value} {l : List Cn} (h : CnOwn w B v l) (hk : Kept w w') : CnOwn w' B v l := h.chg (S := fun _ => False) (Chg.of_kept hk) (fun _ _ _ _ _ => id)
theorem Rd.lower {B B' G : Nat} {w : World} {r : Nat} {us : List Tok} {d : Nat} {dp : Option Nat} (h : Rd B G w r us d dp) (hB : B' ≤ B) {pL pW : Addr} (hl : Laid w pL pW) (h1 : pL.block < B') (h2 : pW.block < B') (h3 : 0 < B' ∧ 1 < B' ∧ 2 < B') : Rd B' G w r us d dp :=
  ⟨h.lie, Nat.le_trans hB h.above, h.low, h.small, pL, pW, hl, h1, h2, h3⟩
attribute [local go_sem] tok0 tok1 tok2
set_option maxRecDepth 100000 in
theorem finish_syn {B G r d : Nat} {dp : Option Nat} {t : Tok} {us : List Tok} (w : World) (h : Rd B G w r (t :: us) d dp) (hk : t.kind ≠ 0) : Calls Tryz.prog 15 #[.pointer (some ⟨r, 0, none⟩)] w fun e w' => e = .panicked [{ v := faultV 5 t.place, recovered := false }] ∧ Hid (Kept w w') := by
  have HP := Lib.hid (peek_any w h)
  have HR := Lib.hid h
  have hb : ((t.kind : Int) != 0) = true := by rw [bne_iff_ne]; omega
  clear h hk
  go_enter Tryz.func15, Tryz.ntmps15
  go_upto_region 1 with (go_at_call 21; refine (HP.out).mono ?_; rintro e w1 ⟨rfl, Hk⟩)
  have HN := Lib.hid (refuse_any w1 (HR.out.kept Hk.out))
  go_wp2_with (go_at_call 22; refine (HN.out).mono ?_; rintro e w2 ⟨rfl, Hn⟩)
  exact ⟨rfl, rfl, Lib.hid (Hk.out.trans Hn.out)⟩
/-- What parse.Cond comes to at a text whose tokens are ts. -/
inductive Top (α : Type) where
  | ok (a : α)
  | err (no place : Nat)
def topF {α : Type} : Res α → Option (Top α)
  | .out => none
  | .bad k => some (.err 5 k)
  | .ok [] _ _ => none
  | .ok (t :: _) dp a => some (if t.kind ≠ 0 then .err 5 t.place else match dp with | some k => .err 6 k | none => .ok a)
def CondTop (w : World) : Top (List Cn) → Ending → World → Prop
  | .ok l, e, w' => ∃ v, e = .returned (.tuple #[v, .int .i64 0, .int .i64 0]) ∧ Hid (Kept w w' ∧ CnOwn w' w.heap.size v l)
  | .err no k, e, w' => e = .returned (.tuple #[.slice none 0 0, .int .i64 no, .int .i64 k]) ∧ Hid (Kept w w')

set_option maxRecDepth 100000 in
/-- The door of Cond, where the reader has given up. -/
theorem cond_door {w w3 : World} {no k : Nat} {tmps : Array Value} {v : Value} {e a : Int} (hx : w3.heap[w.heap.size]? = some (.cells #[v] 26 (0, 0))) (hy : w3.heap[w.heap.size + 1]? = some (.cells #[.int .i64 e] 27 (0, 0))) (hz : w3.heap[w.heap.size + 1 + 1]? = some (.cells #[.int .i64 a] 3 (0, 0))) (hk : Kept w w3)
    (t2 : tmps.getD 2 undef = .pointer (some ⟨w.heap.size, 0, none⟩)) (t3 : tmps.getD 3 undef = .pointer (some ⟨w.heap.size + 1, 0, none⟩)) (t4 : tmps.getD 4 undef = .pointer (some ⟨w.heap.size + 1 + 1, 0, none⟩)) :
    bodyPostD Tryz.prog Tryz.f8 (CondTop w (.err no k)) (.panic [{ v := faultV no k, recovered := false }]) { tmps := tmps, defers := [{ target := .fn (.func 13) #[.pointer (some ⟨w.heap.size, 0, none⟩), .pointer (some ⟨w.heap.size + 1, 0, none⟩), .pointer (some ⟨w.heap.size + 1 + 1, 0, none⟩)], args := #[] }] } w3 := by
  refine leaves_cons (f := 13) (args := #[.pointer (some ⟨w.heap.size, 0, none⟩), .pointer (some ⟨w.heap.size + 1, 0, none⟩), .pointer (some ⟨w.heap.size + 1 + 1, 0, none⟩)]) (by simp) (by simp [go_sem]) ?_
  refine (catch_cond _ _ _ no k [] w3 v e a hx hy hz).mono ?_
  rintro e u' w4 ⟨rfl, rfl, H4⟩
  obtain ⟨hc, hx4, hy4, hz4⟩ := H4.out
  have c2 := box_cell hx4 0 _ rfl
  have c3 := box_cell hy4 0 _ rfl
  have c4 := box_cell hz4 0 _ rfl
  simp only [Array.getD_eq_getD_getElem?] at t2 t3 t4
  simp [Leaves, settle, results, Tryz.results8, go_sem, t2, t3, t4, c2, c3, c4, CondTop]
  exact Lib.hid (Below.trans hk (hc.below (Below.size hk) (fun k e => by omega)))
set_option maxRecDepth 100000 in
set_option maxHeartbeats 4000000 in
theorem Cond_toks {s : ByteArray} {ts : List Tok} {f : Nat} {R : Top (List Cn)} (w : World) (pL pW : Addr) (hL : Laid w pL pW) (hl : s.size ≤ 4611686018427387904) (h : lexF (lst s) = .toks ts) (hR : topF (condF f ts 0 none) = some R) :
    Calls Tryz.prog 8 #[.string s] w (CondTop w R) := by
  have hmf : ∀ (fn : Fn) (first cap : Array Value) (w : World), (Instr.makeFunc fn first cap).run Tryz.prog w = .ok (.func fn first cap) w := fun _ _ _ _ => rfl
  have hk0 : Kept w (((w.alloc (.cells #[.slice none 0 0] 26)).alloc (.cells #[.int .i64 0] 27)).alloc (.cells #[.int .i64 0] 3)) := (((Kept.refl w).alloc _).alloc _).alloc _
  have HX := Lib.hid (Lex.Lex_toks s _ pL pW (hL.kept hk0) hl ts h)
  obtain ⟨hlen, hpos⟩ := lex_len h
  have HL := Lib.hid hL
  have Hl := Lib.hid h
  have HR := Lib.hid hR
  clear hL h hR hl hk0
  have HW : Hid (∀ w1, Kept (((w.alloc (.cells #[.slice none 0 0] 26)).alloc (.cells #[.int .i64 0] 27)).alloc (.cells #[.int .i64 0] 3)) w1 → w1.heap[w.heap.size]? = some (.cells #[.slice none 0 0] 26 (0, 0)) ∧ w1.heap[w.heap.size + 1]? = some (.cells #[.int .i64 0] 27 (0, 0)) ∧ w1.heap[w.heap.size + 1 + 1]? = some (.cells #[.int .i64 0] 3 (0, 0)) ∧ w.heap.size + 3 ≤ w1.heap.size) := Lib.hid fun w1 hk => by
    have hs := Below.size hk
    simp only [World.size_alloc] at hs
    refine ⟨?_, ?_, ?_, by omega⟩
    · rw [Below.block hk _ (by simp; omega), Below.heap_alloc _ _ _ (by simp; omega), Below.heap_alloc _ _ _ (by simp)]; exact heap_alloc_new w _
    · rw [Below.block hk _ (by simp), Below.heap_alloc _ _ _ (by simp)]
      have := heap_alloc_new (w.alloc (.cells #[.slice none 0 0] 26)) (.cells #[.int .i64 0] 27)
      simpa using this
    · rw [Below.block hk _ (by simp)]
      have := heap_alloc_new ((w.alloc (.cells #[.slice none 0 0] 26)).alloc (.cells #[.int .i64 0] 27)) (.cells #[.int .i64 0] 3)
      simpa using this
  go_enter_defers Tryz.func8, Tryz.ntmps8
  go_upto_region 4 with (go_at_call 12; refine (HX.out).mono ?_; rintro e w1 ⟨⟨v, rfl, Ho⟩, Hk⟩; obtain ⟨bx, bY, bz, hs1⟩ := HW.out w1 Hk.out; have cx := box_cell bx 0 _ rfl; have cy := box_cell bY 0 _ rfl; have cz := box_cell bz 0 _ rfl; have fx := box_froz bx; have fy := box_froz bY; have fz := box_froz bz; have Bx := Lib.hid bx; have By := Lib.hid bY; have Bz := Lib.hid bz; clear bx bY bz)
  have hsA : (((w.alloc (.cells #[.slice none 0 0] 26)).alloc (.cells #[.int .i64 0] 27)).alloc (.cells #[.int .i64 0] 3)).heap.size = w.heap.size + 3 := by simp
  have Ho' := Lib.hid (own_from Ho.out (base' := w.heap.size + 3) (fun g hg => by have := (Ho.out.lt g hg).1; omega))
  obtain ⟨g, cap, cur, hv, hg3, hG, hcap, hm, -, htk⟩ : ∃ g cap cur, v = .slice (some ⟨g, 0, none⟩) ts.length cap ∧ w.heap.size + 3 ≤ g ∧ w1.heap[g]? = some (.cells cur 73 (0, 0)) ∧ ts.length ≤ cap ∧ cap ≤ maxLen ∧ cur.size = cap * 3 ∧ cur.toList.take (ts.length * 3) = cellsOf ts := by
    rcases Ho'.out.2 with ⟨_, hn⟩ | h
    · omega
    · exact h
  subst hv
  have hK1 : Kept w w1 := ((((Kept.refl w).alloc _).alloc _).alloc _).trans Hk.out
  have hK2 : Kept w ((w1.setCell ⟨w.heap.size + 1, 0, none⟩ (.int .i64 0)).setCell ⟨w.heap.size + 1 + 1, 0, none⟩ (.int .i64 0)) := (hK1.setCell (by simp) _).setCell (by simp; omega) _
  have hG2 : ((w1.setCell ⟨w.heap.size + 1, 0, none⟩ (.int .i64 0)).setCell ⟨w.heap.size + 1 + 1, 0, none⟩ (.int .i64 0)).heap[g]? = some (.cells cur 73 (0, 0)) := by
    rw [heap_setCell_other _ _ _ _ (by simp; omega), heap_setCell_other _ _ _ _ (by simp; omega)]; exact hG
  have hX2 : ((w1.setCell ⟨w.heap.size + 1, 0, none⟩ (.int .i64 0)).setCell ⟨w.heap.size + 1 + 1, 0, none⟩ (.int .i64 0)).heap[w.heap.size]? = some (.cells #[.slice none 0 0] 26 (0, 0)) := by
    rw [heap_setCell_other _ _ _ _ (by simp; omega), heap_setCell_other _ _ _ _ (by simp)]; exact Bx.out
  have hY2 : ((w1.setCell ⟨w.heap.size + 1, 0, none⟩ (.int .i64 0)).setCell ⟨w.heap.size + 1 + 1, 0, none⟩ (.int .i64 0)).heap[w.heap.size + 1]? = some (.cells #[.int .i64 0] 27 (0, 0)) := by
    rw [heap_setCell_other _ _ _ _ (by simp), heap_setCell_same _ _ _ _ _ _ By.out]; simp
  have hZ2 : ((w1.setCell ⟨w.heap.size + 1, 0, none⟩ (.int .i64 0)).setCell ⟨w.heap.size + 1 + 1, 0, none⟩ (.int .i64 0)).heap[w.heap.size + 1 + 1]? = some (.cells #[.int .i64 0] 3 (0, 0)) := by
    rw [heap_setCell_same _ _ _ _ _ _ ((heap_setCell_other _ _ _ _ (by simp)).trans Bz.out)]; simp
  have hS2 : w.heap.size + 3 ≤ ((w1.setCell ⟨w.heap.size + 1, 0, none⟩ (.int .i64 0)).setCell ⟨w.heap.size + 1 + 1, 0, none⟩ (.int .i64 0)).heap.size := by simpa [World.setCell] using hs1
  clear cx cy cz fx fy fz Bx By Bz Ho Ho' Hk hK1 hG hs1
  generalize (w1.setCell ⟨w.heap.size + 1, 0, none⟩ (.int .i64 0)).setCell ⟨w.heap.size + 1 + 1, 0, none⟩ (.int .i64 0) = w2 at *
  obtain ⟨lL, lW, hz3⟩ : pL.block < w.heap.size ∧ pW.block < w.heap.size ∧ (0 < w.heap.size ∧ 1 < w.heap.size ∧ 2 < w.heap.size) := by
    obtain ⟨c, t, e⟩ := HL.out.rowL
    obtain ⟨c', t', e'⟩ := HL.out.rowW
    exact ⟨box_lt e, box_lt e', HL.out.size⟩
  have hrd := rd_of (B := w.heap.size + 3) (HL.out.kept hK2) Hl.out hlen hG2 hcap hm htk hS2 (by omega) (by omega) (by omega)
  have HRd := Lib.hid hrd
  have K2 := Lib.hid hK2
  have X2 := Lib.hid hX2
  have Y2 := Lib.hid hY2
  have Z2 := Lib.hid hZ2
  clear hrd hK2 hX2 hY2 hZ2 hG2 htk
  cases hc : condF f ts 0 none with
  | out => rw [hc] at HR; cases HR.out
  | bad k =>
    have HC := Lib.hid (cond_any (f := f) _ HRd.out (by rw [hc]; simp))
    rw [hc] at HC HR
    clear hc
    obtain rfl : Top.err 5 k = R := Option.some.inj HR.out
    go_wp2_with (go_at_call 14; refine (HC.out).mono ?_; rintro e w3 ⟨rfl, Hb⟩)
    have hb3 : ∀ j, j < w.heap.size + 3 → w3.heap[j]? = w2.heap[j]? := fun j hj => (Below.block Hb.out j hj).trans (Below.heap_alloc _ _ _ (by omega))
    exact cond_door ((hb3 _ (by omega)).trans X2.out) ((hb3 _ (by omega)).trans Y2.out) ((hb3 _ (by omega)).trans Z2.out) (Below.trans (K2.out.trans ((Kept.refl w2).alloc _)) (Below.mono Hb.out (by omega))) rfl rfl rfl
  | ok us dp c =>
    have HC := Lib.hid (cond_any (f := f) _ HRd.out (by rw [hc]; simp))
    rw [hc] at HC HR
    clear hc
    cases us with
    | nil => cases HR.out
    | cons t us =>
      have hR := Option.some.inj HR.out
      clear HR
      go_upto_region 7 with (go_at_call 14; refine (HC.out).mono ?_; rintro e w3 ⟨x, rfl, Hb⟩; obtain ⟨xs, hxs, _⟩ := Hb.out.2.2.1; obtain ⟨ax, cx, rfl⟩ := own_slice hxs; have hx3 := (Hb.out.1.heap ((Below.heap_alloc _ _ _ (by omega)).trans X2.out) (by omega)); have c0 := box_cell hx3 0 _ rfl; have f0 := box_froz hx3; have X3 := Lib.hid hx3; clear hx3 hxs)
      have Y3 := Lib.hid (Hb.out.1.heap ((Below.heap_alloc _ _ _ (by omega)).trans Y2.out) (by omega))
      have Z3 := Lib.hid (Hb.out.1.heap ((Below.heap_alloc _ _ _ (by omega)).trans Z2.out) (by omega))
      have hr2 : w2.heap.size < w3.heap.size := by have := Hb.out.1.size; simp at this; omega
      have K3 : Hid (Kept w w3) := Lib.hid (((Chg.of_kept (S := fun k => k = w2.heap.size) (K2.out.trans ((Kept.refl w2).alloc _))).then Hb.out.1).kept (fun i hi => by omega))
      have hg0 : w.heap.size ≠ g := by omega
      have R3 := Lib.hid (((Hb.out.2.1).lower (B' := w.heap.size) (by omega) (HL.out.kept K3.out) lL lW hz3).chg (chg_set w3 w.heap.size 0 (.slice ax c.length cx)) (fun k e => by subst e; exact ⟨Nat.le_refl _, by omega, hg0⟩))
      have K4 := Lib.hid (K3.out.setCell (p := ⟨w.heap.size, 0, none⟩) (by simp) (.slice ax c.length cx))
      have X4 : Hid ((w3.setCell ⟨w.heap.size, 0, none⟩ (.slice ax c.length cx)).heap[w.heap.size]? = some (.cells #[.slice ax c.length cx] 26 (0, 0))) := Lib.hid (by rw [heap_setCell_same _ _ _ _ _ _ X3.out]; simp)
      have Y4 := Lib.hid ((heap_setCell_other w3 ⟨w.heap.size, 0, none⟩ (w.heap.size + 1) (.slice ax c.length cx) (by simp)).trans Y3.out)
      have Z4 := Lib.hid ((heap_setCell_other w3 ⟨w.heap.size, 0, none⟩ (w.heap.size + 1 + 1) (.slice ax c.length cx) (by simp; omega)).trans Z3.out)
      have C4 : Hid (CnOwn (w3.setCell ⟨w.heap.size, 0, none⟩ (.slice ax c.length cx)) w.heap.size (.slice ax c.length cx) c) := Lib.hid (by
        obtain ⟨xs, h1, h2⟩ := Hb.out.2.2.1
        have hc := chg_set w3 w.heap.size 0 (.slice ax c.length cx)
        refine ⟨xs, own_chg (own_from h1 (fun g hg => by have := (h1.lt g hg).1; omega)) hc (fun g hg e => by have := (h1.lt g hg).1; omega), ?_⟩
        exact (CnCells.base h2 (by omega)).chg hc (fun g c hg e => ne_of_ty hg X3.out (by decide) e))
      clear c0 f0 X3 Y3 Z3
      generalize w3.setCell ⟨w.heap.size, 0, none⟩ (.slice ax c.length cx) = w4 at *
      by_cases ht : t.kind = 0
      case neg =>
        obtain rfl : Top.err 5 t.place = R := by rw [← hR]; simp [ht]
        have HF := Lib.hid (finish_syn w4 R3.out ht)
        clear ht hR
        go_wp2_with (go_at_call 15; refine (HF.out).mono ?_; rintro e w5 ⟨rfl, H5⟩)
        have hb5 : ∀ j, j < w.heap.size + 3 → w5.heap[j]? = w4.heap[j]? := fun j hj => Below.block H5.out j (by have := Below.size K4.out; have := box_lt Z4.out; omega)
        exact cond_door ((hb5 _ (by omega)).trans X4.out) ((hb5 _ (by omega)).trans Y4.out) ((hb5 _ (by omega)).trans Z4.out) (K4.out.trans H5.out) rfl rfl rfl
      case pos =>
        cases dp with
        | some k =>
          obtain rfl : Top.err 6 k = R := by rw [← hR]; simp [ht]
          have HF := Lib.hid (finish_deep w4 R3.out ht)
          clear ht hR
          go_wp2_with (go_at_call 15; refine (HF.out).mono ?_; rintro e w5 ⟨rfl, H5⟩)
          have hb5 : ∀ j, j < w.heap.size + 3 → w5.heap[j]? = w4.heap[j]? := fun j hj => Below.block H5.out j (by have := Below.size K4.out; have := box_lt Z4.out; omega)
          exact cond_door ((hb5 _ (by omega)).trans X4.out) ((hb5 _ (by omega)).trans Y4.out) ((hb5 _ (by omega)).trans Z4.out) (K4.out.trans H5.out) rfl rfl rfl
        | none =>
          obtain rfl : Top.ok c = R := by rw [← hR]; simp [ht]
          have HF := Lib.hid (finish_ok w4 R3.out ht)
          clear ht hR
          go_upto_region 8 with (go_at_call 15; refine (HF.out).mono ?_; rintro e w5 ⟨rfl, H5⟩; have hb5 : ∀ j, j < w.heap.size + 3 → w5.heap[j]? = w4.heap[j]? := (fun j hj => Below.block H5.out j (by have := Below.size K4.out; have := box_lt Z4.out; omega)); have X5 := Lib.hid ((hb5 _ (by omega)).trans X4.out); have Y5 := Lib.hid ((hb5 _ (by omega)).trans Y4.out); have Z5 := Lib.hid ((hb5 _ (by omega)).trans Z4.out); clear hb5)
          have x0 := box_cell X5.out 0 _ rfl
          have y0 := box_cell Y5.out 0 _ rfl
          have z0 := box_cell Z5.out 0 _ rfl
          have xf := box_froz X5.out
          have yf := box_froz Y5.out
          have zf := box_froz Z5.out
          go_wp2
          refine leaves_cons (f := 13) (args := #[.pointer (some ⟨w.heap.size, 0, none⟩), .pointer (some ⟨w.heap.size + 1, 0, none⟩), .pointer (some ⟨w.heap.size + 1 + 1, 0, none⟩)]) (by simp) (by simp [go_sem]) ?_
          refine (idle_cond _ _ _ _).mono ?_
          rintro e u' w7 ⟨rfl, rfl, H7⟩
          have k6 : Chg (fun j => j = w.heap.size ∨ j = w.heap.size + 1 ∨ j = w.heap.size + 1 + 1) w5 (((w5.setCell ⟨w.heap.size, 0, none⟩ (.slice ax c.length cx)).setCell ⟨w.heap.size + 1, 0, none⟩ (.int .i64 0)).setCell ⟨w.heap.size + 1 + 1, 0, none⟩ (.int .i64 0)) :=
            (((chg_set w5 w.heap.size 0 (.slice ax c.length cx)).mono (T := fun j => j = w.heap.size ∨ j = w.heap.size + 1 ∨ j = w.heap.size + 1 + 1) (fun _ _ e => .inl e)).trans (chg_set _ (w.heap.size + 1) 0 (.int .i64 0)) (fun _ _ e => .inr (.inl e))).trans (chg_set _ (w.heap.size + 1 + 1) 0 (.int .i64 0)) (fun _ _ e => .inr (.inr e))
          have x7 : w7.cell? ⟨w.heap.size, 0, none⟩ = some (.slice ax c.length cx) := by
            rw [Below.cell H7.out (p := ⟨w.heap.size, 0, none⟩) (by have := box_lt X5.out; simpa [World.setCell] using this)]
            simp [go_sem, x0]
          have y7 : w7.cell? ⟨w.heap.size + 1, 0, none⟩ = some (.int .i64 0) := by
            rw [Below.cell H7.out (p := ⟨w.heap.size + 1, 0, none⟩) (by have := box_lt Y5.out; simpa [World.setCell] using this)]
            simp [go_sem, y0]
          have z7 : w7.cell? ⟨w.heap.size + 1 + 1, 0, none⟩ = some (.int .i64 0) := by
            rw [Below.cell H7.out (p := ⟨w.heap.size + 1 + 1, 0, none⟩) (by have := box_lt Z5.out; simpa [World.setCell] using this)]
            simp [go_sem, z0]
          simp [Leaves, settle, results, Tryz.results8, go_sem, x7, y7, z7, CondTop]
          refine Lib.hid ⟨(((Chg.of_kept (K4.out.trans H5.out)).trans k6 (fun _ _ e => e)).keep H7.out).kept (fun i hi e => by omega), ((C4.out.kept H5.out).chg k6 (fun g c t hg ht e => ?_)).kept H7.out⟩
          rcases e with e | e | e
          · exact ne_of_ty hg X5.out (by rcases ht with rfl | rfl <;> decide) e
          · exact ne_of_ty hg Y5.out (by rcases ht with rfl | rfl <;> decide) e
          · exact ne_of_ty hg Z5.out (by rcases ht with rfl | rfl <;> decide) e
end Go.Proofs.YtnnpdilngmciaaaGreatDoor.Prs
