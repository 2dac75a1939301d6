/-
  The deferred literal of Program, and the contract of parse.Program, where the text is a program (too deep or not).
-/
import Derived.Test.YtoafcpbpnkfhoaaGreatDoorPrsO
namespace Go.Proofs.YtoafcpbpnkfhoaaGreatDoor.Prs
open Go.RowKit
open Lex (Tok Laid lst lexF lexTo cellsOf)

set_option maxRecDepth 100000 in
set_option maxHeartbeats 1000000 in
theorem catch_prog (x y z : Nat) (k at_ : Int) (older : List PanicEntry) (w : World) (v v' : Value) (e a : Int) (hx : w.heap[x]? = some (.cells #[v, v'] 27 (0, 0))) (hy : w.heap[y]? = some (.cells #[.int .i64 e] 28 (0, 0))) (hz : w.heap[z]? = some (.cells #[.int .i64 a] 3 (0, 0))) :
    CallsD Tryz.prog 9 #[.pointer (some ⟨x, 0, none⟩), .pointer (some ⟨y, 0, none⟩), .pointer (some ⟨z, 0, none⟩)] (.panicking ({ v := faultV k at_, recovered := false } :: older)) w fun e u' w' =>
      e = .returned (.tuple #[]) ∧ u' = .panicking ({ v := faultV k at_, recovered := true } :: older) ∧ Hid (Chg (fun j => j = x ∨ j = y ∨ j = z) w w' ∧ w'.heap[x]? = some (.cells #[.slice none 0 0, .slice none 0 0] 27 (0, 0)) ∧ w'.heap[y]? = some (.cells #[.int .i64 k] 28 (0, 0)) ∧ w'.heap[z]? = some (.cells #[.int .i64 at_] 3 (0, 0))) := by
  refine callsD_of_wpS Tryz.func9 rfl fun c₀ cs hu => ?_
  unfold faultV at hu ⊢
  apply wpS_seq
  apply wpS_region
  simp [wpOpsS, go_sem, recoverD, hu, Tryz.ntmps9, Exit.thenS, ta_yes]
  refine wpS_of_wp ?_
  have cx := box_cell hx 0 _ rfl
  have cx' := box_cell hx 1 _ rfl
  have cy := box_cell hy 0 _ rfl
  have cz := box_cell hz 0 _ rfl
  have fx := box_froz hx
  have fy := box_froz hy 0
  have fz := box_froz hz 0
  have lx := box_lt hx
  have ly := box_lt hy
  have lz := box_lt hz
  have nxy : ¬ x = y := ne_of_ty hx hy (by decide)
  have nxz : ¬ x = z := ne_of_ty hx hz (by decide)
  have nyz : ¬ y = z := ne_of_ty hy hz (by decide)
  have Hx := Lib.hid hx
  have Hy := Lib.hid hy
  have Hz := Lib.hid hz
  clear hx hy hz hu
  simp only [Array.replicate_succ, Array.replicate_zero, List.push_toArray, List.nil_append, List.cons_append, List.setIfInBounds_toArray, List.set_cons_succ, List.set_cons_zero, List.append_toArray]
  go_wp2
  go_region
  refine ⟨rfl, _, rfl, .tuple #[], results_none rfl _ _ _, rfl, rfl, Lib.hid ⟨?_, ?_, ?_, ?_⟩⟩
  · exact (((((((chg_set w x 0 (.slice none 0 0)).then (chg_set _ x 1 (.slice none 0 0))).mono (T := fun j => j = x ∨ j = y ∨ j = z) (fun _ _ e => .inl e)).trans (chg_set _ y 0 (.int .i64 k)) (fun _ _ e => .inr (.inl e))).trans (chg_set _ z 0 (.int .i64 at_)) (fun _ _ e => .inr (.inr e))).alloc _).drew)
  · show (World.alloc _ _).heap[x]? = _
    rw [Below.heap_alloc _ _ _ (by simpa [World.setCell] using lx), heap_setCell_other _ _ _ _ nxz, heap_setCell_other _ _ _ _ nxy, heap_setCell_same _ _ _ _ _ _ (heap_setCell_same _ _ _ _ _ _ Hx.out)]; simp
  · show (World.alloc _ _).heap[y]? = _
    rw [Below.heap_alloc _ _ _ (by simpa [World.setCell] using ly), heap_setCell_other _ _ _ _ nyz, heap_setCell_same _ _ _ _ _ _ ((heap_setCell_other _ _ _ _ (Ne.symm nxy)).trans ((heap_setCell_other _ _ _ _ (Ne.symm nxy)).trans Hy.out))]; simp
  · show (World.alloc _ _).heap[z]? = _
    rw [Below.heap_alloc _ _ _ (by simpa [World.setCell] using lz), heap_setCell_same _ _ _ _ _ _ ((heap_setCell_other _ _ _ _ (Ne.symm nyz)).trans ((heap_setCell_other _ _ _ _ (Ne.symm nxz)).trans ((heap_setCell_other _ _ _ _ (Ne.symm nxz)).trans Hz.out)))]; simp
set_option maxRecDepth 100000 in
set_option maxHeartbeats 1000000 in
theorem idle_prog (x y z : Addr) (w : World) :
    CallsD Tryz.prog 9 #[.pointer (some x), .pointer (some y), .pointer (some z)] .returning w fun e u' w' => e = .returned (.tuple #[]) ∧ u' = .returning ∧ Hid (Kept w w') := by
  refine callsD_of_wpS Tryz.func9 rfl fun c₀ cs hu => ?_
  apply wpS_seq
  apply wpS_region
  simp [wpOpsS, go_sem, recoverD, hu, Tryz.ntmps9, Exit.thenS, ta_nil]
  refine wpS_of_wp ?_
  simp only [Array.replicate_succ, Array.replicate_zero, List.push_toArray, List.nil_append, List.cons_append, List.setIfInBounds_toArray, List.set_cons_succ, List.set_cons_zero, List.append_toArray]
  go_wp2
  refine ⟨rfl, .returning, ?_, .tuple #[], results_none rfl _ _ _, rfl, rfl, Lib.hid ((Kept.refl w).alloc _)⟩
  cases c₀
  simp_all
def GlOwn (w : World) (B : Nat) (v : Value) (l : List Gl) : Prop := w.ownsRow B 33 5 v l.length (glCells l)
def FnOwn (w : World) (B : Nat) (v : Value) (l : List Fn) : Prop := ∃ xs, w.ownsRow B 38 8 v l.length xs ∧ FnCells w B l xs
theorem StOwn.base {w : World} {B B' : Nat} {v : Value} {l : List St} (h : StOwn w B v l) (hB : B' ≤ B) : StOwn w B' v l := by
  obtain ⟨ys, h1, h2⟩ := h
  exact ⟨ys, own_from h1 (fun g hg => by have := (h1.lt g hg).1; omega), h2⟩
theorem FnCells.base {w : World} {B B' : Nat} {l : List Fn} {xs : List Value} (h : FnCells w B l xs) (hB : B' ≤ B) : FnCells w B' l xs := by
  induction l generalizing xs with
  | nil => exact h
  | cons f l ih =>
    obtain ⟨ap, cp, ar, cr, ae, ce, an, nn, cn, ab, cb, rest, e, h1, h3⟩ := h
    exact ⟨ap, cp, ar, cr, ae, ce, an, nn, cn, ab, cb, rest, e, h1.base hB, ih h3⟩
theorem GlOwn.chg {S : Nat → Prop} {w w' : World} {B : Nat} {v : Value} {l : List Gl} (h : GlOwn w B v l) (hc : Chg S w w') (hn : ∀ g c, w.heap[g]? = some (.cells c 33 (0, 0)) → ¬ S g) : GlOwn w' B v l :=
  own_chg h hc (fun g hg => by obtain ⟨c, hc⟩ := own_ty h hg; exact hn g c hc)
theorem FnOwn.chg {S : Nat → Prop} {w w' : World} {B : Nat} {v : Value} {l : List Fn} (h : FnOwn w B v l) (hc : Chg S w w') (hn : ∀ g c t, w.heap[g]? = some (.cells c t (0, 0)) → t = 38 ∨ t = 43 → ¬ S g) : FnOwn w' B v l := by
  obtain ⟨xs, h1, h2⟩ := h
  exact ⟨xs, own_chg h1 hc (fun g hg => by obtain ⟨c, hc⟩ := own_ty h1 hg; exact hn g c _ hc (.inl rfl)), h2.chg hc (fun g c hg => hn g c _ hg (.inr rfl))⟩
def ProgErr (w : World) (no k : Nat) (e : Ending) (w' : World) : Prop := e = .returned (.tuple #[.agg #[.slice none 0 0, .slice none 0 0], .int .i64 no, .int .i64 k]) ∧ Hid (Kept w w')
def ProgOk (w : World) (gs : List Gl) (fs : List Fn) (e : Ending) (w' : World) : Prop := ∃ ag cg af cf, e = .returned (.tuple #[.agg #[.slice ag gs.length cg, .slice af fs.length cf], .int .i64 0, .int .i64 0]) ∧ Hid (Kept w w' ∧ GlOwn w' w.heap.size (.slice ag gs.length cg) gs ∧ FnOwn w' w.heap.size (.slice af fs.length cf) fs)
def ProgTop (w : World) (dp : Option Nat) (gs : List Gl) (fs : List Fn) (e : Ending) (w' : World) : Prop :=
  match dp with
  | some k => ProgErr w 6 k e w'
  | none => ProgOk w gs fs e w'
set_option maxRecDepth 100000 in
/-- The door of Program, where the reader has given up. -/
theorem prog_door {w w3 : World} {no k : Nat} {tmps : Array Value} {v v' : Value} {e a : Int} (hx : w3.heap[w.heap.size]? = some (.cells #[v, v'] 27 (0, 0))) (hy : w3.heap[w.heap.size + 1]? = some (.cells #[.int .i64 e] 28 (0, 0))) (hz : w3.heap[w.heap.size + 1 + 1]? = some (.cells #[.int .i64 a] 3 (0, 0))) (hk : Kept w w3)
    (t2 : tmps.getD 2 undef = .pointer (some ⟨w.heap.size, 0, none⟩)) (t3 : tmps.getD 3 undef = .pointer (some ⟨w.heap.size + 1, 0, none⟩)) (t4 : tmps.getD 4 undef = .pointer (some ⟨w.heap.size + 1 + 1, 0, none⟩)) :
    bodyPostD Tryz.prog Tryz.f5 (ProgErr w no k) (.panic [{ v := faultV no k, recovered := false }]) { tmps := tmps, defers := [{ target := .fn (.func 9) #[.pointer (some ⟨w.heap.size, 0, none⟩), .pointer (some ⟨w.heap.size + 1, 0, none⟩), .pointer (some ⟨w.heap.size + 1 + 1, 0, none⟩)], args := #[] }] } w3 := by
  refine leaves_cons (f := 9) (args := #[.pointer (some ⟨w.heap.size, 0, none⟩), .pointer (some ⟨w.heap.size + 1, 0, none⟩), .pointer (some ⟨w.heap.size + 1 + 1, 0, none⟩)]) (by simp) (by simp [go_sem]) ?_
  refine (catch_prog _ _ _ no k [] w3 v v' e a hx hy hz).mono ?_
  rintro e u' w4 ⟨rfl, rfl, H4⟩
  obtain ⟨hc, hx4, hy4, hz4⟩ := H4.out
  have c2 := box_cell hx4 0 _ rfl
  have c2' := box_cell hx4 1 _ rfl
  have c3 := box_cell hy4 0 _ rfl
  have c4 := box_cell hz4 0 _ rfl
  simp only [Array.getD_eq_getD_getElem?] at t2 t3 t4
  simp [Leaves, settle, results, Tryz.results5, go_sem, t2, t3, t4, c2, c2', c3, c4, ProgErr]
  exact Lib.hid (Below.trans hk (hc.below (Below.size hk) (fun k e => by omega)))
set_option maxRecDepth 100000 in
set_option maxHeartbeats 4000000 in
theorem Program_toks {F : FnF} (HF : FnSaid F) {s : ByteArray} {ts us : List Tok} {t : Tok} {k : Nat} {dp : Option Nat} {gs : List Gl} {fs : List Fn} (w : World) (pL pW : Addr) (hL : Laid w pL pW) (hl : s.size ≤ 4611686018427387904) (h : lexF (lst s) = .toks ts) (hR : progF F 0 k ts none [] [] = some (t :: us, dp, gs, fs)) (ht : t.kind = 0) :
    Calls Tryz.prog 5 #[.string s] w (ProgTop w dp gs fs) := by
  have hmf : ∀ (fn : Go.Fn) (first cap : Array Value) (w : World), (Instr.makeFunc fn first cap).run Tryz.prog w = .ok (.func fn first cap) w := fun _ _ _ _ => rfl
  have hk0 : Kept w (((w.alloc (.cells #[.slice none 0 0, .slice none 0 0] 27)).alloc (.cells #[.int .i64 0] 28)).alloc (.cells #[.int .i64 0] 3)) := (((Kept.refl w).alloc _).alloc _).alloc _
  have HX := Lib.hid (Lex.Lex_toks s _ pL pW (hL.kept hk0) hl ts h)
  obtain ⟨hlen, hpos⟩ := lex_len h
  have HL := Lib.hid hL
  have Hl := Lib.hid h
  have HR := Lib.hid hR
  have HFn : Hid (FnSaid F) := @HF
  have Ht := Lib.hid ht
  clear hL h hR hl hk0 HF ht
  have HW : Hid (∀ w1, Kept (((w.alloc (.cells #[.slice none 0 0, .slice none 0 0] 27)).alloc (.cells #[.int .i64 0] 28)).alloc (.cells #[.int .i64 0] 3)) w1 → w1.heap[w.heap.size]? = some (.cells #[.slice none 0 0, .slice none 0 0] 27 (0, 0)) ∧ w1.heap[w.heap.size + 1]? = some (.cells #[.int .i64 0] 28 (0, 0)) ∧ w1.heap[w.heap.size + 1 + 1]? = some (.cells #[.int .i64 0] 3 (0, 0)) ∧ w.heap.size + 3 ≤ w1.heap.size) := Lib.hid fun w1 hk => by
    have hs := Below.size hk
    simp only [World.size_alloc] at hs
    refine ⟨?_, ?_, ?_, by omega⟩
    · rw [Below.block hk _ (by simp; omega), Below.heap_alloc _ _ _ (by simp; omega), Below.heap_alloc _ _ _ (by simp)]; exact heap_alloc_new w _
    · rw [Below.block hk _ (by simp), Below.heap_alloc _ _ _ (by simp)]
      have := heap_alloc_new (w.alloc (.cells #[.slice none 0 0, .slice none 0 0] 27)) (.cells #[.int .i64 0] 28)
      simpa using this
    · rw [Below.block hk _ (by simp)]
      have := heap_alloc_new ((w.alloc (.cells #[.slice none 0 0, .slice none 0 0] 27)).alloc (.cells #[.int .i64 0] 28)) (.cells #[.int .i64 0] 3)
      simpa using this
  go_enter_defers Tryz.func5, Tryz.ntmps5
  go_upto_region 4 with (go_at_call 8; refine (HX.out).mono ?_; rintro e w1 ⟨⟨v, rfl, Ho⟩, Hk⟩; obtain ⟨bx, bY, bz, hs1⟩ := HW.out w1 Hk.out; have cx := box_cell bx 0 _ rfl; have cy := box_cell bY 0 _ rfl; have cz := box_cell bz 0 _ rfl; have fx := box_froz bx; have fy := box_froz bY; have fz := box_froz bz; have Bx := Lib.hid bx; have By := Lib.hid bY; have Bz := Lib.hid bz; clear bx bY bz)
  have hsA : (((w.alloc (.cells #[.slice none 0 0, .slice none 0 0] 27)).alloc (.cells #[.int .i64 0] 28)).alloc (.cells #[.int .i64 0] 3)).heap.size = w.heap.size + 3 := by simp
  have Ho' := Lib.hid (own_from Ho.out (base' := w.heap.size + 3) (fun g hg => by have := (Ho.out.lt g hg).1; omega))
  obtain ⟨g, cap, cur, hv, hg3, hG, hcap, hm, -, htk⟩ : ∃ g cap cur, v = .slice (some ⟨g, 0, none⟩) ts.length cap ∧ w.heap.size + 3 ≤ g ∧ w1.heap[g]? = some (.cells cur 62 (0, 0)) ∧ ts.length ≤ cap ∧ cap ≤ maxLen ∧ cur.size = cap * 3 ∧ cur.toList.take (ts.length * 3) = cellsOf ts := by
    rcases Ho'.out.2 with ⟨_, hn⟩ | h
    · omega
    · exact h
  subst hv
  have hK1 : Kept w w1 := ((((Kept.refl w).alloc _).alloc _).alloc _).trans Hk.out
  have hK2 : Kept w ((w1.setCell ⟨w.heap.size + 1, 0, none⟩ (.int .i64 0)).setCell ⟨w.heap.size + 1 + 1, 0, none⟩ (.int .i64 0)) := (hK1.setCell (by simp) _).setCell (by simp; omega) _
  have hG2 : ((w1.setCell ⟨w.heap.size + 1, 0, none⟩ (.int .i64 0)).setCell ⟨w.heap.size + 1 + 1, 0, none⟩ (.int .i64 0)).heap[g]? = some (.cells cur 62 (0, 0)) := by
    rw [heap_setCell_other _ _ _ _ (by simp; omega), heap_setCell_other _ _ _ _ (by simp; omega)]; exact hG
  have hX2 : ((w1.setCell ⟨w.heap.size + 1, 0, none⟩ (.int .i64 0)).setCell ⟨w.heap.size + 1 + 1, 0, none⟩ (.int .i64 0)).heap[w.heap.size]? = some (.cells #[.slice none 0 0, .slice none 0 0] 27 (0, 0)) := by
    rw [heap_setCell_other _ _ _ _ (by simp; omega), heap_setCell_other _ _ _ _ (by simp)]; exact Bx.out
  have hY2 : ((w1.setCell ⟨w.heap.size + 1, 0, none⟩ (.int .i64 0)).setCell ⟨w.heap.size + 1 + 1, 0, none⟩ (.int .i64 0)).heap[w.heap.size + 1]? = some (.cells #[.int .i64 0] 28 (0, 0)) := by
    rw [heap_setCell_other _ _ _ _ (by simp), heap_setCell_same _ _ _ _ _ _ By.out]; simp
  have hZ2 : ((w1.setCell ⟨w.heap.size + 1, 0, none⟩ (.int .i64 0)).setCell ⟨w.heap.size + 1 + 1, 0, none⟩ (.int .i64 0)).heap[w.heap.size + 1 + 1]? = some (.cells #[.int .i64 0] 3 (0, 0)) := by
    rw [heap_setCell_same _ _ _ _ _ _ ((heap_setCell_other _ _ _ _ (by simp)).trans Bz.out)]; simp
  have hS2 : w.heap.size + 3 ≤ ((w1.setCell ⟨w.heap.size + 1, 0, none⟩ (.int .i64 0)).setCell ⟨w.heap.size + 1 + 1, 0, none⟩ (.int .i64 0)).heap.size := by simpa [World.setCell] using hs1
  clear cx cy cz fx fy fz Bx By Bz Ho Ho' Hk hK1 hG hs1
  generalize (w1.setCell ⟨w.heap.size + 1, 0, none⟩ (.int .i64 0)).setCell ⟨w.heap.size + 1 + 1, 0, none⟩ (.int .i64 0) = w2 at *
  obtain ⟨lL, lW, hz3⟩ : pL.block < w.heap.size ∧ pW.block < w.heap.size ∧ (0 < w.heap.size ∧ 1 < w.heap.size ∧ 2 < w.heap.size) := by
    obtain ⟨c, t, e⟩ := HL.out.rowL
    obtain ⟨c', t', e'⟩ := HL.out.rowW
    exact ⟨box_lt e, box_lt e', HL.out.size⟩
  have hrd := rd_of (B := w.heap.size + 3) (HL.out.kept hK2) Hl.out hlen hG2 hcap hm htk hS2 (by omega) (by omega) (by omega)
  have HRd := Lib.hid hrd
  have K2 := Lib.hid hK2
  have X2 := Lib.hid hX2
  have Y2 := Lib.hid hY2
  have Z2 := Lib.hid hZ2
  clear hrd hK2 hX2 hY2 hZ2 hG2 htk
  have HC := Lib.hid (program_any HFn.out _ HRd.out HR.out)
  go_upto_region 7 with (go_at_call 10; refine (HC.out).mono ?_; rintro e w3 ⟨ag, cg, af, cf, rfl, Hb⟩; have hx3 := (Hb.out.1.heap ((Below.heap_alloc _ _ _ (by omega)).trans X2.out) (by omega)); have c0 := box_cell hx3 0 _ rfl; have c1 := box_cell hx3 1 _ rfl; have f0 := box_froz hx3; have X3 := Lib.hid hx3; clear hx3)
  have Y3 := Lib.hid (Hb.out.1.heap ((Below.heap_alloc _ _ _ (by omega)).trans Y2.out) (by omega))
  have Z3 := Lib.hid (Hb.out.1.heap ((Below.heap_alloc _ _ _ (by omega)).trans Z2.out) (by omega))
  have hr2 : w2.heap.size < w3.heap.size := by have := Hb.out.1.size; simp at this; omega
  have K3 : Hid (Kept w w3) := Lib.hid (((Chg.of_kept (S := fun k => k = w2.heap.size) (K2.out.trans ((Kept.refl w2).alloc _))).then Hb.out.1).kept (fun i hi => by omega))
  have hg0 : w.heap.size ≠ g := by omega
  have cX : Chg (fun k => k = w.heap.size) w3 ((w3.setCell ⟨w.heap.size, 0, none⟩ (.slice ag gs.length cg)).setCell ⟨w.heap.size, 1, none⟩ (.slice af fs.length cf)) := (chg_set w3 w.heap.size 0 _).then (chg_set _ w.heap.size 1 _)
  have R3 := Lib.hid (((Hb.out.2.1).lower (B' := w.heap.size) (by omega) (HL.out.kept K3.out) lL lW hz3).chg cX (fun k e => by subst e; exact ⟨Nat.le_refl _, by omega, hg0⟩))
  have K4 := Lib.hid ((K3.out.setCell (p := ⟨w.heap.size, 0, none⟩) (by simp) (.slice ag gs.length cg)).setCell (p := ⟨w.heap.size, 1, none⟩) (by simp) (.slice af fs.length cf))
  have X4 : Hid (((w3.setCell ⟨w.heap.size, 0, none⟩ (.slice ag gs.length cg)).setCell ⟨w.heap.size, 1, none⟩ (.slice af fs.length cf)).heap[w.heap.size]? = some (.cells #[.slice ag gs.length cg, .slice af fs.length cf] 27 (0, 0))) := Lib.hid (by rw [heap_setCell_same _ _ _ _ _ _ (heap_setCell_same _ _ _ _ _ _ X3.out)]; simp)
  have Y4 := Lib.hid (cX.heap Y3.out (by omega))
  have Z4 := Lib.hid (cX.heap Z3.out (by omega))
  have C4 : Hid (GlOwn ((w3.setCell ⟨w.heap.size, 0, none⟩ (.slice ag gs.length cg)).setCell ⟨w.heap.size, 1, none⟩ (.slice af fs.length cf)) w.heap.size (.slice ag gs.length cg) gs ∧ FnOwn ((w3.setCell ⟨w.heap.size, 0, none⟩ (.slice ag gs.length cg)).setCell ⟨w.heap.size, 1, none⟩ (.slice af fs.length cf)) w.heap.size (.slice af fs.length cf) fs) := Lib.hid (by
    obtain ⟨-, -, h1, xs, h2, h3⟩ := Hb.out
    have hA : w.heap.size ≤ (w2.alloc (.cells #[.slice (some ⟨g, 0, none⟩) ts.length cap, .int .i64 0, .int .i64 0, .int .i64 0, .int .i64 0] 57)).heap.size := by simp; omega
    have g1 : GlOwn w3 w.heap.size (.slice ag gs.length cg) gs := own_from h1 (fun j hj => by have := (h1.lt j hj).1; omega)
    have g2 : FnOwn w3 w.heap.size (.slice af fs.length cf) fs := ⟨xs, own_from h2 (fun j hj => by have := (h2.lt j hj).1; omega), h3.base (by omega)⟩
    exact ⟨g1.chg cX (fun j c hj e => ne_of_ty hj X3.out (by decide) e), g2.chg cX (fun j c t hj ht e => ne_of_ty hj X3.out (by rcases ht with rfl | rfl <;> decide) e)⟩)
  clear c0 c1 f0 X3 Y3 Z3 cX
  generalize (w3.setCell ⟨w.heap.size, 0, none⟩ (.slice ag gs.length cg)).setCell ⟨w.heap.size, 1, none⟩ (.slice af fs.length cf) = w4 at *
  cases dp with
  | some k =>
    have HF := Lib.hid (finish_deep w4 R3.out Ht.out)
    go_wp2_with (go_at_call 11; refine (HF.out).mono ?_; rintro e w5 ⟨rfl, H5⟩)
    have hb5 : ∀ j, j < w.heap.size + 3 → w5.heap[j]? = w4.heap[j]? := fun j hj => Below.block H5.out j (by have := Below.size K4.out; have := box_lt Z4.out; omega)
    exact prog_door ((hb5 _ (by omega)).trans X4.out) ((hb5 _ (by omega)).trans Y4.out) ((hb5 _ (by omega)).trans Z4.out) (K4.out.trans H5.out) rfl rfl rfl
  | none =>
    have HF := Lib.hid (finish_ok w4 R3.out Ht.out)
    go_upto_region 8 with (go_at_call 11; refine (HF.out).mono ?_; rintro e w5 ⟨rfl, H5⟩; have hb5 : ∀ j, j < w.heap.size + 3 → w5.heap[j]? = w4.heap[j]? := (fun j hj => Below.block H5.out j (by have := Below.size K4.out; have := box_lt Z4.out; omega)); have X5 := Lib.hid ((hb5 _ (by omega)).trans X4.out); have Y5 := Lib.hid ((hb5 _ (by omega)).trans Y4.out); have Z5 := Lib.hid ((hb5 _ (by omega)).trans Z4.out); clear hb5)
    have x0 := box_cell X5.out 0 _ rfl
    have x1 := box_cell X5.out 1 _ rfl
    have y0 := box_cell Y5.out 0 _ rfl
    have z0 := box_cell Z5.out 0 _ rfl
    have xf := box_froz X5.out
    have yf := box_froz Y5.out
    have zf := box_froz Z5.out
    go_wp2
    refine leaves_cons (f := 9) (args := #[.pointer (some ⟨w.heap.size, 0, none⟩), .pointer (some ⟨w.heap.size + 1, 0, none⟩), .pointer (some ⟨w.heap.size + 1 + 1, 0, none⟩)]) (by simp) (by simp [go_sem]) ?_
    refine (idle_prog _ _ _ _).mono ?_
    rintro e u' w7 ⟨rfl, rfl, H7⟩
    have k6 : Chg (fun j => j = w.heap.size ∨ j = w.heap.size + 1 ∨ j = w.heap.size + 1 + 1) w5 ((((w5.setCell ⟨w.heap.size, 0, none⟩ (.slice ag gs.length cg)).setCell ⟨w.heap.size, 1, none⟩ (.slice af fs.length cf)).setCell ⟨w.heap.size + 1, 0, none⟩ (.int .i64 0)).setCell ⟨w.heap.size + 1 + 1, 0, none⟩ (.int .i64 0)) :=
      ((((chg_set w5 w.heap.size 0 (.slice ag gs.length cg)).then (chg_set _ w.heap.size 1 (.slice af fs.length cf))).mono (T := fun j => j = w.heap.size ∨ j = w.heap.size + 1 ∨ j = w.heap.size + 1 + 1) (fun _ _ e => .inl e)).trans (chg_set _ (w.heap.size + 1) 0 (.int .i64 0)) (fun _ _ e => .inr (.inl e))).trans (chg_set _ (w.heap.size + 1 + 1) 0 (.int .i64 0)) (fun _ _ e => .inr (.inr e))
    have x7 : w7.cell? ⟨w.heap.size, 0, none⟩ = some (.slice ag gs.length cg) := by
      rw [Below.cell H7.out (p := ⟨w.heap.size, 0, none⟩) (by have := box_lt X5.out; simpa [World.setCell] using this)]
      simp [go_sem, x0]
    have x7' : w7.cell? ⟨w.heap.size, 1, none⟩ = some (.slice af fs.length cf) := by
      rw [Below.cell H7.out (p := ⟨w.heap.size, 1, none⟩) (by have := box_lt X5.out; simpa [World.setCell] using this)]
      simp [go_sem, x1]
    have y7 : w7.cell? ⟨w.heap.size + 1, 0, none⟩ = some (.int .i64 0) := by
      rw [Below.cell H7.out (p := ⟨w.heap.size + 1, 0, none⟩) (by have := box_lt Y5.out; simpa [World.setCell] using this)]
      simp [go_sem, y0]
    have z7 : w7.cell? ⟨w.heap.size + 1 + 1, 0, none⟩ = some (.int .i64 0) := by
      rw [Below.cell H7.out (p := ⟨w.heap.size + 1 + 1, 0, none⟩) (by have := box_lt Z5.out; simpa [World.setCell] using this)]
      simp [go_sem, z0]
    have hfin : Hid (Kept w w7 ∧ GlOwn w7 w.heap.size (.slice ag gs.length cg) gs ∧ FnOwn w7 w.heap.size (.slice af fs.length cf) fs) := by
      have hn : ∀ {j : Nat} {c : Array Value} {t : TypeId}, w5.heap[j]? = some (.cells c t (0, 0)) → t ≠ 27 → t ≠ 28 → t ≠ 3 → ¬ (j = w.heap.size ∨ j = w.heap.size + 1 ∨ j = w.heap.size + 1 + 1) := fun hj h1 h2 h3 e => by
        rcases e with e | e | e
        · exact ne_of_ty hj X5.out h1 e
        · exact ne_of_ty hj Y5.out h2 e
        · exact ne_of_ty hj Z5.out h3 e
      have k5 := Chg.of_kept (S := fun _ => False) H5.out
      have k7 := Chg.of_kept (S := fun _ => False) H7.out
      refine Lib.hid ⟨(((Chg.of_kept (K4.out.trans H5.out)).trans k6 (fun _ _ e => e)).keep H7.out).kept (fun i hi e => by omega), ?_, ?_⟩
      · exact ((C4.out.1.chg k5 (fun _ _ _ => id)).chg k6 (fun j c hj => hn hj (by decide) (by decide) (by decide))).chg k7 (fun _ _ _ => id)
      · exact ((C4.out.2.chg k5 (fun _ _ _ _ _ => id)).chg k6 (fun j c t hj ht => hn hj (by rcases ht with rfl | rfl <;> decide) (by rcases ht with rfl | rfl <;> decide) (by rcases ht with rfl | rfl <;> decide))).chg k7 (fun _ _ _ _ _ => id)
    simp [Leaves, settle, results, Tryz.results5, go_sem, x7, x7', y7, z7, ProgTop, ProgOk]
    exact ⟨ag, cg, af, cf, ⟨⟨rfl, rfl⟩, rfl, rfl⟩, hfin⟩
end Go.Proofs.YtoafcpbpnkfhoaaGreatDoor.Prs
