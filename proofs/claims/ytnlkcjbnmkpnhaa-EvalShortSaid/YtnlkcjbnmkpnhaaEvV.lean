/-
  Package eval's judge: enter, undecided, newJudge.
-/
import Derived.Test.YtnlkcjbnmkpnhaaEvU
namespace Go.Proofs.Ytnlkcjbnmkpnhaa.Evl
open Go.RowKit
open Prs (Ex Cn)
open Fnd (bx_cell bx_froz)
/-- The blocks that the judge writes. -/
def OwnJ (g h k : Nat) : Prop := k = g ∨ k = h
section
variable {w0 w w' : World} {q : Nat} {cv mv bv ov obv : Value} {l : List Cn} {E : Env} {g h : Nat} {e : List Bool} {a : List Fi}
set_option maxRecDepth 100000 in
set_option maxHeartbeats 4000000 in
theorem jenter_no (H : Jd w0 w q cv mv bv ov obv l E g h e a) (k : Int) (hp : PastJ l e k) : Calls Try.prog 33 #[.pointer (some ⟨q, 0, none⟩), .int .i64 k] w fun x w' => x = .returned (.bool false) ∧ Kept w w' := by
  obtain ⟨la, lc, hlv⟩ := H.list.form
  have hn := H.list.1
  subst hlv
  have hB := H.box
  have c0 := bx_cell hB 0 _ rfl
  have c7 := bx_cell hB 7 _ rfl
  simp only [jdCells] at c0 c7
  clear hB
  by_cases h0 : k < 0
  · clear H
    go_enter Try.func33, Try.ntmps33
    go_upto_region 1 with fail
    go_wp2
    go_ret
    exact ⟨rfl, Kept.refl w⟩
  by_cases h1 : (l.length : Int) ≤ k
  · have h0' : (0 : Int) ≤ k := by omega
    clear H
    go_enter Try.func33, Try.ntmps33
    go_upto_region 1 with fail
    go_wp2
    go_ret
    exact ⟨rfl, Kept.refl w⟩
  obtain ⟨i, rfl⟩ := Int.eq_ofNat_of_zero_le (by omega : 0 ≤ k)
  have hi : i < l.length := by omega
  have hm : mkF e i = true := by
    rcases hp with h | h | h
    · exact absurd h h0
    · exact absurd h h1
    · exact h
  have m0 := (H.markCell hi).1
  rw [hm] at m0
  have hi1 : ((i : Int) < (l.length : Int)) := by omega
  have hlc : (1 : Nat) ≤ l.length := by omega
  clear h0 h1 hp hm H
  have hnb : decide ((i : Int) < 0) = false := by simp
  have hnc : decide ((l.length : Int) ≤ (i : Int)) = false := by simp; omega
  have hnd : decide (l.length ≤ i) = false := by simp; omega
  have hne0 : ¬ ((i : Int) < 0) := by omega
  have hne1 : ¬ ((l.length : Int) ≤ (i : Int)) := by omega
  go_enter Try.func33, Try.ntmps33
  go_upto_region 1 with fail
  go_wp2
  go_ret
  exact ⟨rfl, Kept.refl w⟩
set_option maxRecDepth 100000 in
set_option maxHeartbeats 4000000 in
theorem jenter_yes (H : Jd w0 w q cv mv bv ov obv l E g h e a) {i : Nat} (hi : i < l.length) (hm : mkF e i = false) : Calls Try.prog 33 #[.pointer (some ⟨q, 0, none⟩), .int .i64 (i : Int)] w fun x w' => x = .returned (.bool true) ∧ Hid (Jd w0 w' q cv mv bv ov obv l E g h (e.set i true) a ∧ Rpr.Chg (OwnJ g h) w w') := by
  obtain ⟨la, lc, hlv⟩ := H.list.form
  have hn := H.list.1
  subst hlv
  have hB := H.box
  have c0 := bx_cell hB 0 _ rfl
  have c7 := bx_cell hB 7 _ rfl
  simp only [jdCells] at c0 c7
  clear hB
  obtain ⟨m0, mf⟩ := H.markCell hi
  rw [hm] at m0
  have HH := Lib.hid H
  have hi1 : ((i : Int) < (l.length : Int)) := by omega
  have hlc : (1 : Nat) ≤ l.length := by omega
  clear hm H
  have hnb : decide ((i : Int) < 0) = false := by simp
  have hnc : decide ((l.length : Int) ≤ (i : Int)) = false := by simp; omega
  have hnd : decide (l.length ≤ i) = false := by simp; omega
  have hne0 : ¬ ((i : Int) < 0) := by omega
  have hne1 : ¬ ((l.length : Int) ≤ (i : Int)) := by omega
  go_enter Try.func33, Try.ntmps33
  go_upto_region 1 with fail
  go_wp2
  go_wp2
  go_ret
  refine ⟨rfl, Lib.hid ⟨?_, ?_⟩⟩
  · exact (HH.out.keep (Kept.refl w)).mark i
  · exact (Rpr.Chg.of_kept (Kept.refl w)).setCell (fun _ => .inl rfl) _
def condVal (c : Cn) (x y : Value) : Value := .agg #[.int .i64 c.kind, .int .i64 c.rel, x, y, .int .i64 c.a, .int .i64 c.b, .int .i64 c.place]
set_option maxRecDepth 100000 in
set_option maxHeartbeats 4000000 in
theorem und_any (H : Jd w0 w q cv mv bv ov obv l E g h e a) (c : Cn) (xa ya : Option Addr) (xn xc yn yc : Nat) : Calls Try.prog 59 #[.pointer (some ⟨q, 0, none⟩), .agg #[.int .i64 c.kind, .int .i64 c.rel, .slice xa xn xc, .slice ya yn yc, .int .i64 c.a, .int .i64 c.b, .int .i64 c.place]] w fun x w' => x = .returned (.bool (undA c (tldA l a c.a))) ∧ Kept w w' := by
  have HT := Lib.hid (fun w1 (hk : Kept w w1) => jtold_any (H.keep hk) c.a)
  generalize hV : tldA l a c.a = V at *
  unfold fiVal at HT
  clear H hV
  unfold undA
  by_cases hk3 : c.kind = 3
  case' pos =>
    have hkb : ((c.kind : Int) == 3) = true := by simp; omega
    rw [show decide (c.kind = 3) = true from decide_eq_true hk3]
  case' neg =>
    have hkb : ((c.kind : Int) == 3) = false := by rw [beq_eq_false_iff_ne]; omega
    rw [show decide (c.kind = 3) = false from decide_eq_false hk3]
  all_goals
    clear hk3
    by_cases hu : V.ub = 0
    case' pos =>
      have hub : (V.ub == 0) = true := by simpa using hu
      rw [show decide (V.ub = 0) = true from decide_eq_true hu]
    case' neg =>
      have hub : (V.ub == 0) = false := by simpa using hu
      rw [show decide (V.ub = 0) = false from decide_eq_false hu]
  all_goals
    clear hu
    go_enter Try.func59, Try.ntmps59
    go_upto_region 1 with fail
    have x0 := World.alloc_heap_new w (.cells #[.int .i64 c.kind, .int .i64 c.rel, .slice xa xn xc, .slice ya yn yc, .int .i64 c.a, .int .i64 c.b, .int .i64 c.place] 56)
    have kW := (Kept.refl w).alloc (.cells #[.int .i64 c.kind, .int .i64 c.rel, .slice xa xn xc, .slice ya yn yc, .int .i64 c.a, .int .i64 c.b, .int .i64 c.place] 56)
    generalize w.alloc (.cells #[.int .i64 c.kind, .int .i64 c.rel, .slice xa xn xc, .slice ya yn yc, .int .i64 c.a, .int .i64 c.b, .int .i64 c.place] 56) = W at *
    generalize w.heap.size = cb at *
    have c4 := bx_cell x0 4 _ rfl
    have X := Lib.hid x0
    have KW := Lib.hid kW
    clear x0 kW
    go_upto_region 2 with (go_at_call 37; refine (HT.out _ KW.out).mono ?_; rintro e1 w1 ⟨rfl, k1⟩; have X1 := Lib.hid (kh X.out k1); have K1 := Lib.hid (KW.out.trans k1); clear k1 c4 HT)
    have z := World.alloc_heap_new w1 (.cells #[.bool V.is, .int .i64 V.ub, .int .i64 V.at_] 95)
    have k6 := (Kept.refl w1).alloc (.cells #[.bool V.is, .int .i64 V.ub, .int .i64 V.at_] 95)
    generalize w1.alloc (.cells #[.bool V.is, .int .i64 V.ub, .int .i64 V.at_] 95) = W6 at *
    have z0 := bx_cell z 0 _ rfl
    have z1 := bx_cell z 1 _ rfl
    have c0 := bx_cell (kh X1.out k6) 0 _ rfl
    have K6 := Lib.hid (K1.out.trans k6)
    clear z k6
    go_wp2
    go_ret
    refine ⟨?_, K6.out⟩
    first | rfl | simp | (cases V.is <;> rfl)
end
end Go.Proofs.Ytnlkcjbnmkpnhaa.Evl
