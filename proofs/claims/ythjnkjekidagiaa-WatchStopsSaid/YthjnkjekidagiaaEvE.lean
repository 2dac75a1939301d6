/-
  Package eval's reckoner: enter.
-/
import Derived.Test.YthjnkjekidagiaaEvD
namespace Go.Proofs.Ythjnkjekidagiaa.Evl
open Go.RowKit
open Prs (Ex)
open Fnd (bx_cell bx_froz)

/-- The blocks that the reckoner writes. -/
def Own2 (g h : Nat → Nat) (k : Nat) : Prop := ∃ s, s < 2 ∧ (k = g s ∨ k = h s)
section
variable {w0 w w' : World} {q : Nat} {lv mv bv ov obv : Value} {l : List Ex} {E : Env} {g h : Nat → Nat} {e : Nat → List Bool} {a : Nat → List Ans}
set_option maxRecDepth 100000 in
set_option maxHeartbeats 4000000 in
theorem enter_no (H : Rk w0 w q lv mv bv ov obv l E g h e a) (k : Int × Nat) (ht : k.2 < 2) (hp : Past l e k) : Calls Try.prog 85 #[.pointer (some ⟨q, 0, none⟩), spotV k] w fun x w' => x = .returned (.bool false) ∧ Kept w w' := by
  obtain ⟨x, t⟩ := k
  obtain ⟨la, lc, hlv⟩ := H.list.form
  have hn := H.list.1
  subst hlv
  unfold spotV
  simp only at ht ⊢
  by_cases h0 : x < 0
  · go_enter Try.func85, Try.ntmps85
    go_upto_region 1 with fail
    have x0 := World.alloc_heap_new w (.cells #[.int .i64 x, .int .i64 t] 139)
    have kW := (Kept.refl w).alloc (.cells #[.int .i64 x, .int .i64 t] 139)
    generalize w.alloc (.cells #[.int .i64 x, .int .i64 t] 139) = W at *
    have s0 := bx_cell x0 0 _ rfl
    have s1 := bx_cell x0 1 _ rfl
    have HW := Lib.hid (H.keep kW)
    have hB := HW.out.box
    have c0 := bx_cell hB 0 _ rfl
    simp only [rkCells] at c0
    have KW := Lib.hid kW
    have X := Lib.hid x0
    clear x0 kW hB H
    go_region
    go_wp2
    go_ret
    exact ⟨rfl, KW.out.drew⟩
  by_cases h1 : (l.length : Int) ≤ x
  · have h0' : (0 : Int) ≤ x := by omega
    go_enter Try.func85, Try.ntmps85
    go_upto_region 1 with fail
    have x0 := World.alloc_heap_new w (.cells #[.int .i64 x, .int .i64 t] 139)
    have kW := (Kept.refl w).alloc (.cells #[.int .i64 x, .int .i64 t] 139)
    generalize w.alloc (.cells #[.int .i64 x, .int .i64 t] 139) = W at *
    have s0 := bx_cell x0 0 _ rfl
    have s1 := bx_cell x0 1 _ rfl
    have HW := Lib.hid (H.keep kW)
    have hB := HW.out.box
    have c0 := bx_cell hB 0 _ rfl
    simp only [rkCells] at c0
    have KW := Lib.hid kW
    have X := Lib.hid x0
    clear x0 kW hB H
    go_region
    go_wp2
    go_ret
    exact ⟨rfl, KW.out.drew⟩
  obtain ⟨i, rfl⟩ := Int.eq_ofNat_of_zero_le (by omega : 0 ≤ x)
  have hi : i < l.length := by omega
  have hm : markF e (i, t) = true := by
    rcases hp with h | h | h
    · exact absurd h h0
    · exact absurd h h1
    · exact h
  have hA := fun (w' : World) (hk : Kept w w') => ((H.keep hk).markCell ht hi).1
  rw [hm] at hA
  have hi1 : ((i : Int) < (l.length : Int)) := by omega
  have hlc : (1 : Nat) ≤ l.length := by omega
  clear h0 h1 hp hm
  have hnb : decide ((i : Int) < 0) = false := by simp
  have hnc : decide ((l.length : Int) ≤ (i : Int)) = false := by simp; omega
  have hnd : decide (l.length ≤ i) = false := by simp; omega
  have hne0 : ¬ ((i : Int) < 0) := by omega
  have hne1 : ¬ ((l.length : Int) ≤ (i : Int)) := by omega
  rcases (show t = 0 ∨ t = 1 by omega) with rfl | rfl
  · go_enter Try.func85, Try.ntmps85
    go_upto_region 1 with fail
    have x0 := World.alloc_heap_new w (.cells #[.int .i64 i, .int .i64 0] 139)
    have kW := (Kept.refl w).alloc (.cells #[.int .i64 i, .int .i64 0] 139)
    generalize w.alloc (.cells #[.int .i64 i, .int .i64 0] 139) = W at *
    have s0 := bx_cell x0 0 _ rfl
    have s1 := bx_cell x0 1 _ rfl
    have HW := Lib.hid (H.keep kW)
    have hB := HW.out.box
    have c0 := bx_cell hB 0 _ rfl
    simp only [rkCells] at c0
    have KW := Lib.hid kW
    have X := Lib.hid x0
    have c13 := bx_cell hB 13 _ rfl
    simp only [rkCells] at c13
    have m0 := hA _ KW.out
    clear x0 kW hB H hA
    go_quiet (fail)
    go_wp2
    go_ret
    exact ⟨rfl, KW.out.drewN _⟩
  · go_enter Try.func85, Try.ntmps85
    go_upto_region 1 with fail
    have x0 := World.alloc_heap_new w (.cells #[.int .i64 i, .int .i64 1] 139)
    have kW := (Kept.refl w).alloc (.cells #[.int .i64 i, .int .i64 1] 139)
    generalize w.alloc (.cells #[.int .i64 i, .int .i64 1] 139) = W at *
    have s0 := bx_cell x0 0 _ rfl
    have s1 := bx_cell x0 1 _ rfl
    have HW := Lib.hid (H.keep kW)
    have hB := HW.out.box
    have c0 := bx_cell hB 0 _ rfl
    simp only [rkCells] at c0
    have KW := Lib.hid kW
    have X := Lib.hid x0
    have c13 := bx_cell hB 14 _ rfl
    simp only [rkCells] at c13
    have m0 := hA _ KW.out
    clear x0 kW hB H hA
    go_quiet (fail)
    go_wp2
    go_ret
    exact ⟨rfl, KW.out.drewN _⟩
set_option maxRecDepth 100000 in
set_option maxHeartbeats 4000000 in
theorem enter_yes (H : Rk w0 w q lv mv bv ov obv l E g h e a) {i t : Nat} (ht : t < 2) (hi : i < l.length) (hm : markF e (i, t) = false) : Calls Try.prog 85 #[.pointer (some ⟨q, 0, none⟩), spotV ((i : Int), t)] w fun x w' => x = .returned (.bool true) ∧ Hid (Rk w0 w' q lv mv bv ov obv l E g h (updF e (i, t) true) (updF a (i, t) Ans.none) ∧ Rpr.Chg (Own2 g h) w w') := by
  obtain ⟨la, lc, hlv⟩ := H.list.form
  have hn := H.list.1
  subst hlv
  unfold spotV
  have HA := Lib.hid (fun w => absent_any w)
  unfold ansVal Ans.none at HA
  have hA := fun (w' : World) (hk : Kept w w') => (H.keep hk).markCell ht hi
  rw [hm] at hA
  have hi1 : ((i : Int) < (l.length : Int)) := by omega
  have hlc : (1 : Nat) ≤ l.length := by omega
  clear hm
  have hnb : decide ((i : Int) < 0) = false := by simp
  have hnc : decide ((l.length : Int) ≤ (i : Int)) = false := by simp; omega
  have hnd : decide (l.length ≤ i) = false := by simp; omega
  have hne0 : ¬ ((i : Int) < 0) := by omega
  have hne1 : ¬ ((l.length : Int) ≤ (i : Int)) := by omega
  rcases (show t = 0 ∨ t = 1 by omega) with rfl | rfl
  · simp only
    go_enter Try.func85, Try.ntmps85
    go_upto_region 1 with fail
    have x0 := World.alloc_heap_new w (.cells #[.int .i64 i, .int .i64 0] 139)
    have kW := (Kept.refl w).alloc (.cells #[.int .i64 i, .int .i64 0] 139)
    generalize w.alloc (.cells #[.int .i64 i, .int .i64 0] 139) = W at *
    have s0 := bx_cell x0 0 _ rfl
    have s1 := bx_cell x0 1 _ rfl
    have HW := Lib.hid (H.keep kW)
    have hB := HW.out.box
    have c0 := bx_cell hB 0 _ rfl
    simp only [rkCells] at c0
    have KW := Lib.hid kW
    have X := Lib.hid x0
    have c13 := bx_cell hB 13 _ rfl
    simp only [rkCells] at c13
    obtain ⟨m0, mf⟩ := hA _ KW.out
    clear x0 kW hB H hA
    go_quiet (fail)
    go_wp2
    go_region
    go_wp2
    have HM := Lib.hid ((HW.out.keep ((Kept.refl W).drewN (nq + 1))).mark (i := i) (t := 0) (by omega))
    have X2 := Lib.hid ((heap_setCell_other (W.drewN (nq + 1)) ⟨g 0, i, none⟩ w.heap.size (.bool true) (hne X.out (HW.out.eb 0 (by omega)) (by decide))).trans X.out)
    have C2 : Hid (Rpr.Chg (Own2 g h) w ((W.drewN (nq + 1)).setCell ⟨g 0, i, none⟩ (.bool true))) := Lib.hid ((Rpr.Chg.of_kept (KW.out.drewN (nq + 1))).setCell (fun _ => ⟨0, by omega, .inl rfl⟩) _)
    clear s0 s1 c0 c13 m0 mf HW X KW
    generalize (W.drewN (nq + 1)).setCell ⟨g 0, i, none⟩ (.bool true) = W2 at *
    have s0 := bx_cell X2.out 0 _ rfl
    have s1 := bx_cell X2.out 1 _ rfl
    have c15 := bx_cell HM.out.box 15 _ rfl
    simp only [rkCells] at c15
    go_region_held3 (fun w' => w'.cell? ⟨w.heap.size, 0, none⟩ = some (.int .i64 i) ∧ w'.cell? ⟨w.heap.size, 1, none⟩ = some (.int .i64 0) ∧ w'.cell? ⟨q, 15, none⟩ = some (.slice (some ⟨h 0, 0, none⟩) l.length l.length))
      (first | go_keep | exact ⟨s0, s1, c15⟩ | exact ⟨y0, y1, y15⟩ | exact ⟨z0, z1, z15⟩)
      (first | (go_at_call 94; refine (HA.out _).mono ?_; rintro e w7 ⟨rfl, k7⟩; have K7 := Lib.hid ((Kept.refl W2).drew.trans k7); have H7 := Lib.hid (HM.out.keep K7.out); have X7 := Lib.hid (kh X2.out K7.out); have y0 := bx_cell X7.out 0 _ rfl; have y1 := bx_cell X7.out 1 _ rfl; have y15 := bx_cell H7.out.box 15 _ rfl; simp only [rkCells] at y15; obtain ⟨o0, o1, o2, o3⟩ := H7.out.ansCells (t := 0) (by omega) hi; have of := bx_froz (H7.out.ab 0 (by omega)); have hxx := hne X7.out (H7.out.ab 0 (by omega)) (by decide); have HN := Lib.hid (H7.out.note (t := 0) (by omega) hi Ans.none); have X8 := Lib.hid ((heap_setCell_other _ ⟨h 0, i * 4 + 3, none⟩ w.heap.size (.int .i64 Ans.none.at_) hxx).trans ((heap_setCell_other _ ⟨h 0, i * 4 + 2, none⟩ w.heap.size (.int .i64 Ans.none.ub) hxx).trans ((heap_setCell_other _ ⟨h 0, i * 4 + 1, none⟩ w.heap.size (.int .i64 Ans.none.t) hxx).trans ((heap_setCell_other w7 ⟨h 0, i * 4, none⟩ w.heap.size (.int .i64 Ans.none.v) hxx).trans X7.out)))); have z0 := bx_cell X8.out 0 _ rfl; have z1 := bx_cell X8.out 1 _ rfl; have z15 := bx_cell HN.out.box 15 _ rfl; simp only [rkCells, Ans.none] at z15 z0 z1; clear k7))
    all_goals
      go_wp2
      go_ret
      exact ⟨rfl, Lib.hid ⟨HN.out, ((((C2.out.keep K7.out).setCell (p := ⟨h 0, i * 4, none⟩) (fun _ => ⟨0, by omega, .inr rfl⟩) _).setCell (p := ⟨h 0, i * 4 + 1, none⟩) (fun _ => ⟨0, by omega, .inr rfl⟩) _).setCell (p := ⟨h 0, i * 4 + 2, none⟩) (fun _ => ⟨0, by omega, .inr rfl⟩) _).setCell (p := ⟨h 0, i * 4 + 3, none⟩) (fun _ => ⟨0, by omega, .inr rfl⟩) _⟩⟩
  · simp only
    go_enter Try.func85, Try.ntmps85
    go_upto_region 1 with fail
    have x0 := World.alloc_heap_new w (.cells #[.int .i64 i, .int .i64 1] 139)
    have kW := (Kept.refl w).alloc (.cells #[.int .i64 i, .int .i64 1] 139)
    generalize w.alloc (.cells #[.int .i64 i, .int .i64 1] 139) = W at *
    have s0 := bx_cell x0 0 _ rfl
    have s1 := bx_cell x0 1 _ rfl
    have HW := Lib.hid (H.keep kW)
    have hB := HW.out.box
    have c0 := bx_cell hB 0 _ rfl
    simp only [rkCells] at c0
    have KW := Lib.hid kW
    have X := Lib.hid x0
    have c13 := bx_cell hB 14 _ rfl
    simp only [rkCells] at c13
    obtain ⟨m0, mf⟩ := hA _ KW.out
    clear x0 kW hB H hA
    go_quiet (fail)
    go_wp2
    go_region
    go_wp2
    have HM := Lib.hid ((HW.out.keep ((Kept.refl W).drewN (nq + 1))).mark (i := i) (t := 1) (by omega))
    have X2 := Lib.hid ((heap_setCell_other (W.drewN (nq + 1)) ⟨g 1, i, none⟩ w.heap.size (.bool true) (hne X.out (HW.out.eb 1 (by omega)) (by decide))).trans X.out)
    have C2 : Hid (Rpr.Chg (Own2 g h) w ((W.drewN (nq + 1)).setCell ⟨g 1, i, none⟩ (.bool true))) := Lib.hid ((Rpr.Chg.of_kept (KW.out.drewN (nq + 1))).setCell (fun _ => ⟨1, by omega, .inl rfl⟩) _)
    clear s0 s1 c0 c13 m0 mf HW X KW
    generalize (W.drewN (nq + 1)).setCell ⟨g 1, i, none⟩ (.bool true) = W2 at *
    have s0 := bx_cell X2.out 0 _ rfl
    have s1 := bx_cell X2.out 1 _ rfl
    have c15 := bx_cell HM.out.box 16 _ rfl
    simp only [rkCells] at c15
    go_region_held3 (fun w' => w'.cell? ⟨w.heap.size, 0, none⟩ = some (.int .i64 i) ∧ w'.cell? ⟨w.heap.size, 1, none⟩ = some (.int .i64 1) ∧ w'.cell? ⟨q, 16, none⟩ = some (.slice (some ⟨h 1, 0, none⟩) l.length l.length))
      (first | go_keep | exact ⟨s0, s1, c15⟩ | exact ⟨y0, y1, y15⟩ | exact ⟨z0, z1, z15⟩)
      (first | (go_at_call 94; refine (HA.out _).mono ?_; rintro e w7 ⟨rfl, k7⟩; have K7 := Lib.hid ((Kept.refl W2).drew.trans k7); have H7 := Lib.hid (HM.out.keep K7.out); have X7 := Lib.hid (kh X2.out K7.out); have y0 := bx_cell X7.out 0 _ rfl; have y1 := bx_cell X7.out 1 _ rfl; have y15 := bx_cell H7.out.box 16 _ rfl; simp only [rkCells] at y15; obtain ⟨o0, o1, o2, o3⟩ := H7.out.ansCells (t := 1) (by omega) hi; have of := bx_froz (H7.out.ab 1 (by omega)); have hxx := hne X7.out (H7.out.ab 1 (by omega)) (by decide); have HN := Lib.hid (H7.out.note (t := 1) (by omega) hi Ans.none); have X8 := Lib.hid ((heap_setCell_other _ ⟨h 1, i * 4 + 3, none⟩ w.heap.size (.int .i64 Ans.none.at_) hxx).trans ((heap_setCell_other _ ⟨h 1, i * 4 + 2, none⟩ w.heap.size (.int .i64 Ans.none.ub) hxx).trans ((heap_setCell_other _ ⟨h 1, i * 4 + 1, none⟩ w.heap.size (.int .i64 Ans.none.t) hxx).trans ((heap_setCell_other w7 ⟨h 1, i * 4, none⟩ w.heap.size (.int .i64 Ans.none.v) hxx).trans X7.out)))); have z0 := bx_cell X8.out 0 _ rfl; have z1 := bx_cell X8.out 1 _ rfl; have z15 := bx_cell HN.out.box 16 _ rfl; simp only [rkCells, Ans.none] at z15 z0 z1; clear k7))
    all_goals
      go_wp2
      go_ret
      exact ⟨rfl, Lib.hid ⟨HN.out, ((((C2.out.keep K7.out).setCell (p := ⟨h 1, i * 4, none⟩) (fun _ => ⟨1, by omega, .inr rfl⟩) _).setCell (p := ⟨h 1, i * 4 + 1, none⟩) (fun _ => ⟨1, by omega, .inr rfl⟩) _).setCell (p := ⟨h 1, i * 4 + 2, none⟩) (fun _ => ⟨1, by omega, .inr rfl⟩) _).setCell (p := ⟨h 1, i * 4 + 3, none⟩) (fun _ => ⟨1, by omega, .inr rfl⟩) _⟩⟩
end
end Go.Proofs.Ythjnkjekidagiaa.Evl
