/-
  Conditions in memory (CnCells), and the contract of compared.
-/
import Derived.Test.YtoafcpbpnkfhoaaGreatDoorPrsG
namespace Go.Proofs.YtoafcpbpnkfhoaaGreatDoor.Prs
open Go.RowKit
open Lex (Tok Laid)
attribute [local go_sem] tok0 tok1 tok2

/-- The cells xs are those of the conditions l; each has its two lists. -/
def CnCells (w : World) (B : Nat) : List Cn → List Value → Prop
  | [], xs => xs = []
  | c :: l, xs => ∃ x y rest, xs = .int .i64 c.kind :: .int .i64 c.rel :: x :: y :: .int .i64 c.a :: .int .i64 c.b :: .int .i64 c.place :: rest ∧ w.ownsRow B 152 7 x c.x.length (exCells c.x) ∧ w.ownsRow B 152 7 y c.y.length (exCells c.y) ∧ CnCells w B l rest
theorem CnCells.chg {S : Nat → Prop} {w w' : World} {B : Nat} {l : List Cn} {xs : List Value} (h : CnCells w B l xs) (hc : Chg S w w') (hn : ∀ g c, w.heap[g]? = some (.cells c 152 (0, 0)) → ¬ S g) : CnCells w' B l xs := by
  induction l generalizing xs with
  | nil => exact h
  | cons c l ih =>
    obtain ⟨x, y, rest, e, h1, h2, h3⟩ := h
    exact ⟨x, y, rest, e, own_chg h1 hc (fun g hg => by obtain ⟨c, hc⟩ := own_ty h1 hg; exact hn g c hc), own_chg h2 hc (fun g hg => by obtain ⟨c, hc⟩ := own_ty h2 hg; exact hn g c hc), ih h3⟩
theorem CnCells.snoc {w : World} {B : Nat} {l : List Cn} {xs : List Value} (h : CnCells w B l xs) (c : Cn) {x y : Value} (hx : w.ownsRow B 152 7 x c.x.length (exCells c.x)) (hy : w.ownsRow B 152 7 y c.y.length (exCells c.y)) :
    CnCells w B (l ++ [c]) (xs ++ [.int .i64 c.kind, .int .i64 c.rel, x, y, .int .i64 c.a, .int .i64 c.b, .int .i64 c.place]) := by
  induction l generalizing xs with
  | nil => obtain rfl : xs = [] := h; exact ⟨x, y, [], rfl, hx, hy, rfl⟩
  | cons c' l ih =>
    obtain ⟨x', y', rest, e, h1, h2, h3⟩ := h
    subst e
    exact ⟨x', y', _, rfl, h1, h2, ih h3⟩
theorem own_slice {w : World} {base n size : Nat} {e : TypeId} {v : Value} {xs : List Value} (h : w.ownsRow base e size v n xs) : ∃ a c, v = .slice a n c := by
  rcases h.2 with ⟨rfl, rfl⟩ | ⟨g, cap, c, rfl, _⟩
  · exact ⟨none, 0, rfl⟩
  · exact ⟨_, _, rfl⟩
def nodeC (k r : Int) (x y : Value) (a b p : Int) : Array Value := #[.int .i64 k, .int .i64 r, x, y, .int .i64 a, .int .i64 b, .int .i64 p]
theorem Rd.setb {B G : Nat} {w : World} {r b : Nat} {us : List Tok} {d : Nat} {dp : Option Nat} (h : Rd B G w r us d dp) (h1 : B ≤ b) (h2 : b ≠ r) (h3 : b ≠ G) (i : Nat) (u : Value) : Rd B G (w.setCell ⟨b, i, none⟩ u) r us d dp :=
  h.chg (chg_set w b i u) fun k e => by subst e; exact ⟨h1, h2, h3⟩

theorem chg_set7 (w : World) (b : Nat) (u0 u1 u2 u3 u4 u5 u6 : Value) : Chg (fun k => k = b) w (((((((w.setCell ⟨b, 0, none⟩ u0).setCell ⟨b, 1, none⟩ u1).setCell ⟨b, 2, none⟩ u2).setCell ⟨b, 3, none⟩ u3).setCell ⟨b, 4, none⟩ u4).setCell ⟨b, 5, none⟩ u5).setCell ⟨b, 6, none⟩ u6) :=
  ((((((chg_set w b 0 u0).then (chg_set _ b 1 u1)).then (chg_set _ b 2 u2)).then (chg_set _ b 3 u3)).then (chg_set _ b 4 u4)).then (chg_set _ b 5 u5)).then (chg_set _ b 6 u6)
def CmpPost (B G r : Nat) (w : World) (us : List Tok) (d : Nat) : Res Cn → Ending → World → Prop
  | .out, _, _ => False
  | .bad k, e, w' => Bad B w k e w'
  | .ok us' dp' c, e, w' => ∃ ax nx cx ay ny cy, e = .returned (.agg #[.int .i64 c.kind, .int .i64 c.rel, .slice ax nx cx, .slice ay ny cy, .int .i64 c.a, .int .i64 c.b, .int .i64 c.place]) ∧ Hid (Chg (fun k => k = r) w w' ∧ Rd B G w' r us' d dp' ∧ w'.ownsRow w.heap.size 152 7 (.slice ax nx cx) c.x.length (exCells c.x) ∧ w'.ownsRow w.heap.size 152 7 (.slice ay ny cy) c.y.length (exCells c.y) ∧ us'.length + 1 ≤ us.length)

set_option maxRecDepth 100000 in
set_option maxHeartbeats 4000000 in
theorem compared_any {f : Nat} {B G r d : Nat} {us : List Tok} {dp : Option Nat} (w : World) (h : Rd B G w r us d dp) (hne : comparedF f us d dp ≠ .out) :
    Calls Tryz.prog 96 #[.pointer (some ⟨r, 0, none⟩)] w (CmpPost B G r w us d (comparedF f us d dp)) := by
  have hk0 : Kept w ((w.alloc (.cells (nodeC 0 0 (.slice none 0 0) (.slice none 0 0) 0 0 0) 142)).alloc (.cells (nodeC 1 0 (.slice none 0 0) (.slice none 0 0) (-1) (-1) 0) 142)) := ((Kept.refl w).alloc _).alloc _
  have hb0 : Hid (((w.alloc (.cells (nodeC 0 0 (.slice none 0 0) (.slice none 0 0) 0 0 0) 142)).alloc (.cells (nodeC 1 0 (.slice none 0 0) (.slice none 0 0) (-1) (-1) 0) 142)).heap[w.heap.size]? = some (.cells (nodeC 0 0 (.slice none 0 0) (.slice none 0 0) 0 0 0) 142 (0, 0))) := Lib.hid (by
    rw [Below.heap_alloc _ _ _ (by simp)]; exact heap_alloc_new w _)
  have hb1 : Hid (((w.alloc (.cells (nodeC 0 0 (.slice none 0 0) (.slice none 0 0) 0 0 0) 142)).alloc (.cells (nodeC 1 0 (.slice none 0 0) (.slice none 0 0) (-1) (-1) 0) 142)).heap[w.heap.size + 1]? = some (.cells (nodeC 1 0 (.slice none 0 0) (.slice none 0 0) (-1) (-1) 0) 142 (0, 0))) := Lib.hid (by
    have := heap_alloc_new (w.alloc (.cells (nodeC 0 0 (.slice none 0 0) (.slice none 0 0) 0 0 0) 142)) (.cells (nodeC 1 0 (.slice none 0 0) (.slice none 0 0) (-1) (-1) 0) 142)
    simpa using this)
  have HR := Lib.hid (h.kept hk0)
  have Hk0 := Lib.hid hk0
  have hB := h.size
  have hrw := h.lt
  have hGw := h.ltG
  clear h hk0
  unfold comparedF at hne ⊢
  cases hc : exprF f us d dp with
  | out => rw [hc] at hne; exact absurd rfl hne
  | bad k =>
    have HX := Lib.hid (expr_any (f := f) _ HR.out (by rw [hc]; simp))
    rw [hc] at HX
    clear hc hne
    unfold nodeC at HX Hk0
    go_enter Tryz.func96, Tryz.ntmps96
    go_wp2_with (go_at_call 87; refine (HX.out).mono ?_; rintro e w1 ⟨rfl, H1⟩)
    exact ⟨rfl, rfl, Lib.hid (Below.trans (Below.mono Hk0.out hB) H1.out)⟩
  | ok us1 dp1 x =>
    have HX := Lib.hid (expr_any (f := f) _ HR.out (by rw [hc]; simp))
    rw [hc] at HX hne
    clear hc
    simp only [Res.bind] at hne ⊢
    cases us1 with
    | nil => simp at hne
    | cons t us2 =>
      simp only at hne ⊢
      unfold nodeC at HX Hk0 hb0 hb1
      have HL := Lib.hid (relation_any t.text)
      by_cases hr : relF t.text = 0
      · rw [if_pos hr]
        rw [hr] at HL
        clear hne hr
        go_enter Tryz.func96, Tryz.ntmps96
        go_upto_region 3 with (go_at_call 87; refine (HX.out).mono ?_; rintro e w1 ⟨vx, rfl, H1⟩; obtain ⟨ax, cx, rfl⟩ := own_slice H1.out.2.2.1; have hx1 := H1.out.1.heap hb1.out (by omega); have z2 := box_cell hx1 2 _ rfl; have y0 := box_froz hx1; have Hb1 := Lib.hid hx1; clear hx1)
        have hGr : w.heap.size + 1 ≠ r ∧ w.heap.size + 1 ≠ G := by omega
        have R2 := Lib.hid (H1.out.2.1.setb (b := w.heap.size + 1) (by omega) hGr.1 hGr.2 2 (.slice ax x.length cx))
        have HP := Lib.hid (peek_any _ R2.out)
        have hbx2 := Lib.hid (heap_setCell_same _ _ 2 _ _ (.slice ax x.length cx) Hb1.out)
        go_upto_region 5 with (first | (go_at_call 14; refine (HP.out).mono ?_; rintro e w2 ⟨rfl, H2⟩; have hx2 := (Below.block H2.out _ (box_lt hbx2.out)).trans hbx2.out; have q1 := box_cell hx2 1 _ rfl; have q0 := box_froz hx2; have Hb2 := Lib.hid hx2; clear hx2) | (go_at_call 100; refine (HL.out _).mono ?_; rintro e w' ⟨rfl, rfl⟩))
        have R3 := Lib.hid ((R2.out.kept H2.out).setb (b := w.heap.size + 1) (by omega) hGr.1 hGr.2 1 (.int .i64 0))
        have HN := Lib.hid (refuse_any _ R3.out)
        go_wp2_with (go_at_call 17; refine (HN.out).mono ?_; rintro e w3 ⟨rfl, H3⟩)
        have hc := (((((Chg.of_kept Hk0.out).then H1.out.1).trans (chg_set _ _ 2 _) (fun i hi e => by omega)).keep H2.out).trans (chg_set _ _ 1 _) (fun i hi e => by omega)).keep H3.out
        exact ⟨rfl, rfl, Lib.hid (hc.below hB (fun k e => by have := HR.out.above; omega))⟩
      · rw [if_neg hr] at hne ⊢
        generalize hn : relF t.text = n at *
        have hnb : ((n : Int) == 0) = false := by simp; omega
        clear hr hn
        cases hd : exprF f us2 d dp1 with
        | out => rw [hd] at hne; exact absurd rfl hne
        | bad k =>
          have Hd := Lib.hid hd
          clear hd hne
          go_enter Tryz.func96, Tryz.ntmps96
          go_upto_region 3 with (go_at_call 87; refine (HX.out).mono ?_; rintro e w1 ⟨vx, rfl, H1⟩; obtain ⟨ax, cx, rfl⟩ := own_slice H1.out.2.2.1; have hx1 := H1.out.1.heap hb1.out (by omega); have z2 := box_cell hx1 2 _ rfl; have y0 := box_froz hx1; have Hb1 := Lib.hid hx1; clear hx1)
          have hGr : w.heap.size + 1 ≠ r ∧ w.heap.size + 1 ≠ G := by omega
          have R2 := Lib.hid (H1.out.2.1.setb (b := w.heap.size + 1) (by omega) hGr.1 hGr.2 2 (.slice ax x.length cx))
          have HP := Lib.hid (peek_any _ R2.out)
          have hbx2 := Lib.hid (heap_setCell_same _ _ 2 _ _ (.slice ax x.length cx) Hb1.out)
          go_upto_region 6 with (first | (go_at_call 14; refine (HP.out).mono ?_; rintro e w2 ⟨rfl, H2⟩; have hx2 := (Below.block H2.out _ (box_lt hbx2.out)).trans hbx2.out; have q1 := box_cell hx2 1 _ rfl; have q0 := box_froz hx2; have Hb2 := Lib.hid hx2; clear hx2) | (go_at_call 100; refine (HL.out _).mono ?_; rintro e w' ⟨rfl, rfl⟩))
          have R3 := Lib.hid ((R2.out.kept H2.out).setb (b := w.heap.size + 1) (by omega) hGr.1 hGr.2 1 (.int .i64 n))
          have HN := Lib.hid (next_any _ R3.out)
          have hbx3 := Lib.hid (heap_setCell_same _ _ 1 _ _ (.int .i64 n) Hb2.out)
          go_upto_region 7 with (go_at_call 46; refine (HN.out).mono ?_; rintro e w3 ⟨rfl, H3⟩; have hx3 := H3.out.1.heap hbx3.out hGr.1; have p6 := box_cell hx3 6 _ rfl; have p0 := box_froz hx3; have Hb3 := Lib.hid hx3; clear hx3)
          have R4 := Lib.hid (H3.out.2.setb (b := w.heap.size + 1) (by omega) hGr.1 hGr.2 6 (.int .i64 t.place))
          have HY := Lib.hid (expr_any (f := f) _ R4.out (by rw [Hd.out]; simp))
          rw [Hd.out] at HY
          go_wp2_with (go_at_call 87; refine (HY.out).mono ?_; rintro e w4 ⟨rfl, H4⟩)
          have hc := ((((((Chg.of_kept Hk0.out).then H1.out.1).trans (chg_set _ _ 2 _) (fun i hi e => by omega)).keep H2.out).trans (chg_set _ _ 1 _) (fun i hi e => by omega)).then H3.out.1).trans (chg_set _ (w.heap.size + 1) 6 (.int .i64 t.place)) (fun i hi e => by omega)
          exact ⟨rfl, rfl, Lib.hid (Below.trans (hc.below hB (fun k e => by have := HR.out.above; omega)) H4.out)⟩
        | ok us3 dp3 y =>
          have Hd := Lib.hid hd
          clear hd hne
          simp only
          go_enter Tryz.func96, Tryz.ntmps96
          go_upto_region 3 with (go_at_call 87; refine (HX.out).mono ?_; rintro e w1 ⟨vx, rfl, H1⟩; obtain ⟨ax, cx, rfl⟩ := own_slice H1.out.2.2.1; have hx1 := H1.out.1.heap hb1.out (by omega); have z2 := box_cell hx1 2 _ rfl; have y0 := box_froz hx1; have Hb1 := Lib.hid hx1; clear hx1)
          have hGr : w.heap.size + 1 ≠ r ∧ w.heap.size + 1 ≠ G := by omega
          have R2 := Lib.hid (H1.out.2.1.setb (b := w.heap.size + 1) (by omega) hGr.1 hGr.2 2 (.slice ax x.length cx))
          have HP := Lib.hid (peek_any _ R2.out)
          have hbx2 := Lib.hid (heap_setCell_same _ _ 2 _ _ (.slice ax x.length cx) Hb1.out)
          go_upto_region 6 with (first | (go_at_call 14; refine (HP.out).mono ?_; rintro e w2 ⟨rfl, H2⟩; have hx2 := (Below.block H2.out _ (box_lt hbx2.out)).trans hbx2.out; have q1 := box_cell hx2 1 _ rfl; have q0 := box_froz hx2; have Hb2 := Lib.hid hx2; clear hx2) | (go_at_call 100; refine (HL.out _).mono ?_; rintro e w' ⟨rfl, rfl⟩))
          have R3 := Lib.hid ((R2.out.kept H2.out).setb (b := w.heap.size + 1) (by omega) hGr.1 hGr.2 1 (.int .i64 n))
          have HN := Lib.hid (next_any _ R3.out)
          have hbx3 := Lib.hid (heap_setCell_same _ _ 1 _ _ (.int .i64 n) Hb2.out)
          go_upto_region 7 with (go_at_call 46; refine (HN.out).mono ?_; rintro e w3 ⟨rfl, H3⟩; have hx3 := H3.out.1.heap hbx3.out hGr.1; have p6 := box_cell hx3 6 _ rfl; have p0 := box_froz hx3; have Hb3 := Lib.hid hx3; clear hx3)
          have R4 := Lib.hid (H3.out.2.setb (b := w.heap.size + 1) (by omega) hGr.1 hGr.2 6 (.int .i64 t.place))
          have HY := Lib.hid (expr_any (f := f) _ R4.out (by rw [Hd.out]; simp))
          rw [Hd.out] at HY
          have hbx4 := Lib.hid (heap_setCell_same _ _ 6 _ _ (.int .i64 t.place) Hb3.out)
          have hb04 : Hid ((w3.setCell ⟨w.heap.size + 1, 6, none⟩ (.int .i64 t.place)).heap[w.heap.size]? = some (.cells #[.int .i64 0, .int .i64 0, .slice none 0 0, .slice none 0 0, .int .i64 0, .int .i64 0, .int .i64 0] 142 (0, 0))) := Lib.hid (by
            have hc := ((((H1.out.1.mono (T := fun k => k = r ∨ k = w.heap.size + 1) (fun _ _ e => .inl e)).trans (chg_set _ _ 2 _) (fun _ _ e => .inr e)).keep H2.out).trans (chg_set _ _ 1 _) (fun _ _ e => .inr e)).trans H3.out.1 (fun _ _ e => .inl e)
            exact (hc.trans (chg_set _ _ 6 _) (fun _ _ e => .inr e)).heap hb0.out (by omega))
          go_upto_region 8 with (go_at_call 87; refine (HY.out).mono ?_; rintro e w4 ⟨vy, rfl, H4⟩; obtain ⟨ay, cy, rfl⟩ := own_slice H4.out.2.2.1; have hx4 := H4.out.1.heap hbx4.out hGr.1; have o0 := box_cell hx4 0 _ rfl; have o1 := box_cell hx4 1 _ rfl; have o2 := box_cell hx4 2 _ rfl; have o3 := box_cell hx4 3 _ rfl; have o4 := box_cell hx4 4 _ rfl; have o5 := box_cell hx4 5 _ rfl; have o6 := box_cell hx4 6 _ rfl; have of := box_froz hx4; have hw4 := H4.out.1.heap hb04.out (by omega); have l0 := box_cell hw4 0 _ rfl; have l1 := box_cell hw4 1 _ rfl; have l2 := box_cell hw4 2 _ rfl; have l3 := box_cell hw4 3 _ rfl; have l4 := box_cell hw4 4 _ rfl; have l5 := box_cell hw4 5 _ rfl; have l6 := box_cell hw4 6 _ rfl; have lf := box_froz hw4; have Hb4 := Lib.hid hx4; clear hx4 hw4)
          go_wp2
          have h7 := chg_set7 (w4.setCell ⟨w.heap.size + 1, 3, none⟩ (.slice ay y.length cy)) w.heap.size (.int .i64 1) (.int .i64 n) (.slice ax x.length cx) (.slice ay y.length cy) (.int .i64 (-1)) (.int .i64 (-1)) (.int .i64 t.place)
          have hA : ((w.alloc (.cells #[.int .i64 0, .int .i64 0, .slice none 0 0, .slice none 0 0, .int .i64 0, .int .i64 0, .int .i64 0] 142)).alloc (.cells #[.int .i64 1, .int .i64 0, .slice none 0 0, .slice none 0 0, .int .i64 (-1), .int .i64 (-1), .int .i64 0] 142)).heap.size = w.heap.size + 2 := by simp
          have c4 := ((chg_set w4 (w.heap.size + 1) 3 (.slice ay y.length cy)).mono (T := fun k => k = r ∨ k = w.heap.size + 1 ∨ k = w.heap.size) (fun _ _ e => .inr (.inl e))).trans h7 (fun _ _ e => .inr (.inr e))
          have c11 := ((((((chg_set w1 (w.heap.size + 1) 2 (.slice ax x.length cx)).mono (T := fun k => k = r ∨ k = w.heap.size + 1 ∨ k = w.heap.size) (fun _ _ e => .inr (.inl e))).keep H2.out).trans (chg_set _ (w.heap.size + 1) 1 (.int .i64 n)) (fun _ _ e => .inr (.inl e))).trans H3.out.1 (fun _ _ e => .inl e)).trans (chg_set _ (w.heap.size + 1) 6 (.int .i64 t.place)) (fun _ _ e => .inr (.inl e))).trans H4.out.1 (fun _ _ e => .inl e)
          have c14 := (H1.out.1.mono (T := fun k => k = r ∨ k = w.heap.size + 1 ∨ k = w.heap.size) (fun _ _ e => .inl e)).then c11
          have hs1 : w.heap.size + 2 ≤ w1.heap.size := by have := H1.out.1.size; omega
          have hs3 : w1.heap.size ≤ w3.heap.size := by
            have a1 := (chg_set w1 (w.heap.size + 1) 2 (.slice ax x.length cx)).size
            have a2 := Below.size H2.out
            have a3 := (chg_set w2 (w.heap.size + 1) 1 (.int .i64 n)).size
            have a4 := H3.out.1.size
            omega
          have hs3' := (chg_set w3 (w.heap.size + 1) 6 (.int .i64 t.place)).size
          refine bodyPost_ret (v := .agg #[.int .i64 1, .int .i64 n, .slice ax x.length cx, .slice ay y.length cy, .int .i64 (-1), .int .i64 (-1), .int .i64 t.place]) ?_ rfl ⟨ax, x.length, cx, ay, y.length, cy, rfl, Lib.hid ⟨?_, ?_, ?_, ?_, ?_⟩⟩
          · simp [results, Tryz.results96, go_sem, l0, l1, l2, l3, l4, l5, l6]
          · exact ((Chg.of_kept Hk0.out).trans (c14.then c4) (fun i hi e => by omega))
          · exact (H4.out.2.1.setb (b := w.heap.size + 1) (by omega) hGr.1 hGr.2 3 _).chg h7 (fun k e => by omega)
          · refine own_chg (own_from H1.out.2.2.1 fun g hg => ?_) (c11.then c4) fun g hg e => ?_
            · have := (H1.out.2.2.1.lt g hg).1; omega
            · have := (H1.out.2.2.1.lt g hg).1; omega
          · refine own_chg (own_from H4.out.2.2.1 fun g hg => ?_) c4 fun g hg e => ?_
            · have := (H4.out.2.2.1.lt g hg).1; omega
            · have := (H4.out.2.2.1.lt g hg).1; omega
          · have a1 := H1.out.2.2.2
            have a2 := H4.out.2.2.2
            simp only [List.length_cons] at a1
            omega
end Go.Proofs.YtoafcpbpnkfhoaaGreatDoor.Prs
