/-
  Package eval: what a node has, its kids reckoned (absent, operand, meet, hasPlace, operator, named, node), as plain functions and as contracts.
-/
import Derived.Test.YthjnkjekidagiaaFindB
import Derived.Test.YthjnkjekidagiaaMemD
import Derived.Test.YthjnkjekidagiaaAriE
import Derived.Test.YthjnkjekidagiaaTypU
import Derived.Test.YthjnkjekidagiaaRrdC
import Derived.Deep.Cut
import Derived.Deep.RegionHeld3
namespace Go.Proofs.Ythjnkjekidagiaa.Evl
open Go.RowKit
open Typ (upF joinF wrapF doV doU)
open Prs (Ex)
open Fnd (Bi BindsAt findF foundV biVal)

/-- What is told of a node. -/
structure Ans where
  v : Int
  t : Int
  ub : Int
  at_ : Int
def Ans.none : Ans := ⟨0, 5, 0, 0⟩
def ansVal (a : Ans) : Value := .agg #[.int .i64 a.v, .int .i64 a.t, .int .i64 a.ub, .int .i64 a.at_]
def exVal (e : Ex) : Value := .agg #[.int .i64 e.kind, .int .i64 e.num, .int .i64 e.ty, .string ⟨e.name.toArray⟩, .int .i64 e.a, .int .i64 e.b, .int .i64 e.place]
def opdF (t : Int) : Int := if t = 0 then 5 else t
def meetF (a b : Ans) : Int := joinF (opdF a.t) (opdF b.t)
def doA (k t x y p : Int) : Ans := if doU k t x y = 0 then ⟨doV k t x y, t, 0, 0⟩ else ⟨0, t, doU k t x y, p⟩
def opA (n : Ex) (a b : Ans) : Ans :=
  if 8 ≤ n.kind ∧ n.kind ≤ 15 then doA n.kind (meetF a b) (wrapF (meetF a b) a.v) (wrapF (meetF a b) b.v) n.place
  else if n.kind = 6 ∨ n.kind = 7 ∨ n.kind = 16 ∨ n.kind = 17 then doA n.kind (upF (opdF a.t)) (wrapF (upF (opdF a.t)) a.v) b.v n.place
  else Ans.none

theorem absent_any (w : World) : Calls Try.prog 94 #[] w fun e w' => e = .returned (ansVal Ans.none) ∧ Kept w w' := by
  go_enter Try.func94, Try.ntmps94
  go_wp2
  simp [bodyPost, results, Try.f94, go_sem]
  exact ⟨rfl, (Kept.refl w).alloc _⟩
theorem operand_any (t : Int) (w : World) : Calls Try.prog 80 #[.int .i64 t] w fun e w' => e = .returned (.int .i64 (opdF t)) ∧ w = w' := by
  by_cases h : t = 0
  · subst h
    go_enter Try.func80, Try.ntmps80
    go_wp2
    go_ret
    exact ⟨rfl, rfl⟩
  · have hb : (t == 0) = false := by simpa using h
    rw [show opdF t = t by unfold opdF; rw [if_neg h]]
    go_enter Try.func80, Try.ntmps80
    go_wp2
    go_ret
    exact ⟨rfl, rfl⟩
theorem meet_any (a b : Ans) (w : World) : Calls Try.prog 74 #[ansVal a, ansVal b] w fun e w' => e = .returned (.int .i64 (meetF a b)) ∧ Kept w w' := by
  unfold ansVal meetF
  go_enter Try.func74, Try.ntmps74
  go_wp2
  go_quiet (first | (go_at_call 80; exact quiet_same0 (operand_any _ _)) | (go_at_call 79; exact quiet_same0 (Typ.join_any _ _ _)))
  go_wp2
  go_ret
  exact ⟨rfl, (((Kept.refl w).alloc _).alloc _).drewN _⟩
theorem four (w : World) (o0 o1 o2 o3 : Obj) : ((((w.alloc o0).alloc o1).alloc o2).alloc o3).heap[w.heap.size]? = some o0 ∧ ((((w.alloc o0).alloc o1).alloc o2).alloc o3).heap[w.heap.size + 1]? = some o1 ∧
    ((((w.alloc o0).alloc o1).alloc o2).alloc o3).heap[w.heap.size + 1 + 1]? = some o2 ∧ ((((w.alloc o0).alloc o1).alloc o2).alloc o3).heap[w.heap.size + 1 + 1 + 1]? = some o3 ∧ Kept w ((((w.alloc o0).alloc o1).alloc o2).alloc o3) := by
  have e (w : World) (o : Obj) : (w.alloc o).heap[w.heap.size]? = some o := World.alloc_heap_new w o
  refine ⟨?_, ?_, ?_, ?_, ((((Kept.refl w).alloc _).alloc _).alloc _).alloc _⟩
  · rw [Below.heap_alloc _ _ _ (by simp <;> omega), Below.heap_alloc _ _ _ (by simp <;> omega), Below.heap_alloc _ _ _ (by simp <;> omega)]; exact e w o0
  · rw [Below.heap_alloc _ _ _ (by simp <;> omega), Below.heap_alloc _ _ _ (by simp <;> omega)]
    have := e (w.alloc o0) o1; simpa using this
  · rw [Below.heap_alloc _ _ _ (by simp <;> omega)]
    have := e ((w.alloc o0).alloc o1) o2; simpa using this
  · have := e (((w.alloc o0).alloc o1).alloc o2) o3; simpa using this
open Fnd (bx_cell bx_froz)
theorem kh {w w' : World} {b : Nat} {o : Obj} (h : w.heap[b]? = some o) (hk : Kept w w') : w'.heap[b]? = some o := (Below.block hk _ (Array.getElem?_eq_some_iff.1 h).1).trans h
theorem put4 {w W : World} {i : Nat} {x0 x1 x2 x3 : Value} {t : TypeId} (a b c d : Value) (hi : w.heap.size ≤ i) (hk : Kept w W) (h4 : W.heap[i]? = some (.cells #[x0, x1, x2, x3] t (0, 0))) :
    ((((W.setCell ⟨i, 0, none⟩ a).setCell ⟨i, 1, none⟩ b).setCell ⟨i, 2, none⟩ c).setCell ⟨i, 3, none⟩ d).heap[i]? = some (.cells #[a, b, c, d] t (0, 0)) ∧ Kept w ((((W.setCell ⟨i, 0, none⟩ a).setCell ⟨i, 1, none⟩ b).setCell ⟨i, 2, none⟩ c).setCell ⟨i, 3, none⟩ d) := by
  have e1 := heap_setCell_same W i 0 _ _ a h4
  have e2 := heap_setCell_same _ i 1 _ _ b e1
  have e3 := heap_setCell_same _ i 2 _ _ c e2
  have e4 := heap_setCell_same _ i 3 _ _ d e3
  refine ⟨by simpa using e4, ?_⟩
  exact (((Below.setCell hk (p := ⟨i, 0, none⟩) hi a).setCell (p := ⟨i, 1, none⟩) hi b).setCell (p := ⟨i, 2, none⟩) hi c).setCell (p := ⟨i, 3, none⟩) hi d
theorem kinds3 (k : Nat) : (8 ≤ k ∧ k ≤ 15) ∨ (k = 6 ∨ k = 7 ∨ k = 16 ∨ k = 17) ∨ (¬ (8 ≤ k ∧ k ≤ 15) ∧ ¬ (k = 6 ∨ k = 7 ∨ k = 16 ∨ k = 17)) := by omega
set_option maxRecDepth 100000 in
set_option maxHeartbeats 4000000 in
theorem operator_any (n : Ex) (a b : Ans) (w : World) : Calls Try.prog 98 #[exVal n, ansVal a, ansVal b] w fun e w' => e = .returned (ansVal (opA n a b)) ∧ Kept w w' := by
  rcases kinds3 n.kind with hk | hk | ⟨hk, hk'⟩
  · have e : opA n a b = doA n.kind (meetF a b) (wrapF (meetF a b) a.v) (wrapF (meetF a b) b.v) n.place := by unfold opA; rw [if_pos hk]
    rw [e]; clear e
    obtain ⟨K, hK⟩ : ∃ K : Int, (n.kind : Int) = K := ⟨_, rfl⟩
    unfold ansVal exVal
    rw [hK]
    replace hk : 8 ≤ K ∧ K ≤ 15 := by omega
    have HM := Lib.hid (fun w => meet_any a b w)
    unfold ansVal at HM
    generalize meetF a b = m at *
    have HU : Hid (∀ x y w, Calls Try.prog 102 #[.int .i64 K, .int .i64 m, .int .i64 x, .int .i64 y] w fun e w' => e = .returned (.tuple #[.int .i64 (doV K m x y), .int .i64 (doU K m x y)]) ∧ w = w') := Lib.hid fun x y w => Typ.do_any _ _ _ _ w
    clear hK
    unfold doA
    generalize hu : doU K m (wrapF m a.v) (wrapF m b.v) = u at *
    generalize hv : doV K m (wrapF m a.v) (wrapF m b.v) = v at *
    have HU2 : Hid (∀ w, Calls Try.prog 102 #[.int .i64 K, .int .i64 m, .int .i64 (wrapF m a.v), .int .i64 (wrapF m b.v)] w fun e w' => e = .returned (.tuple #[.int .i64 v, .int .i64 u]) ∧ w = w') := Lib.hid fun w => by have := HU.out (wrapF m a.v) (wrapF m b.v) w; rw [hu, hv] at this; exact this
    clear HU hu hv
    by_cases hu0 : u = 0
    case' pos => subst hu0; rw [if_pos rfl]
    case' neg => rw [if_neg hu0]; have hub : (u != 0) = true := by simpa using hu0
    all_goals
      go_enter Try.func98, Try.ntmps98
      go_upto_region 1 with fail
      obtain ⟨x0, x1, x2, x3, kW⟩ := four w (.cells #[.int .i64 K, .int .i64 n.num, .int .i64 n.ty, .string ⟨n.name.toArray⟩, .int .i64 n.a, .int .i64 n.b, .int .i64 n.place] 146) (.cells #[.int .i64 a.v, .int .i64 a.t, .int .i64 a.ub, .int .i64 a.at_] 124) (.cells #[.int .i64 b.v, .int .i64 b.t, .int .i64 b.ub, .int .i64 b.at_] 124) (.cells #[.int .i64 0, .int .i64 0, .int .i64 0, .int .i64 0] 124)
      generalize ((((w.alloc (.cells #[.int .i64 K, .int .i64 n.num, .int .i64 n.ty, .string ⟨n.name.toArray⟩, .int .i64 n.a, .int .i64 n.b, .int .i64 n.place] 146)).alloc (.cells #[.int .i64 a.v, .int .i64 a.t, .int .i64 a.ub, .int .i64 a.at_] 124)).alloc (.cells #[.int .i64 b.v, .int .i64 b.t, .int .i64 b.ub, .int .i64 b.at_] 124)).alloc (.cells #[.int .i64 0, .int .i64 0, .int .i64 0, .int .i64 0] 124)) = W at *
      have n0 := bx_cell x0 0 _ rfl
      have n6 := bx_cell x0 6 _ rfl
      have a0 := bx_cell x1 0 _ rfl
      have a1 := bx_cell x1 1 _ rfl
      have a2 := bx_cell x1 2 _ rfl
      have a3 := bx_cell x1 3 _ rfl
      have b0 := bx_cell x2 0 _ rfl
      have b1 := bx_cell x2 1 _ rfl
      have b2 := bx_cell x2 2 _ rfl
      have b3 := bx_cell x2 3 _ rfl
      have r0 := bx_cell x3 0 _ rfl
      have r1 := bx_cell x3 1 _ rfl
      have r2 := bx_cell x3 2 _ rfl
      have r3 := bx_cell x3 3 _ rfl
      have rf := bx_froz x3
      have X := Lib.hid (And.intro x0 (And.intro x1 (And.intro x2 x3)))
      have KW := Lib.hid kW
      clear x0 x1 x2 x3 kW
      rcases (show K = 8 ∨ K = 9 ∨ K = 10 ∨ K = 11 ∨ K = 12 ∨ K = 13 ∨ K = 14 ∨ K = 15 by omega) with rfl | rfl | rfl | rfl | rfl | rfl | rfl | rfl
      all_goals
        clear hk
        go_quiet (first | (go_at_call 80; exact quiet_same0 (operand_any _ _)) | (go_at_call 91; exact quiet_same0 (Typ.up_any _ _)) | (go_at_call 29; exact quiet_same0 (Typ.wrap_any _ _ _)) | (go_at_call 102; exact quiet_same0 (HU2.out _)))
        go_wp2_with (first | (go_at_call 74; refine (HM.out _).mono ?_; rintro e w5 ⟨rfl, k5⟩; have k6 := (Kept.refl W).drewN nq |>.trans k5; have y0 := kh X.out.1 k6; have y1 := kh X.out.2.1 k6; have y2 := kh X.out.2.2.1 k6; have y3 := kh X.out.2.2.2 k6; have n0' := bx_cell y0 0 _ rfl; have n6' := bx_cell y0 6 _ rfl; have a0' := bx_cell y1 0 _ rfl; have a1' := bx_cell y1 1 _ rfl; have a2' := bx_cell y1 2 _ rfl; have a3' := bx_cell y1 3 _ rfl; have b0' := bx_cell y2 0 _ rfl; have b1' := bx_cell y2 1 _ rfl; have b2' := bx_cell y2 2 _ rfl; have b3' := bx_cell y2 3 _ rfl; have r0' := bx_cell y3 0 _ rfl; have r1' := bx_cell y3 1 _ rfl; have r2' := bx_cell y3 2 _ rfl; have r3' := bx_cell y3 3 _ rfl; have rf' := bx_froz y3; have KX := Lib.hid (KW.out.trans k6); have Y3 := Lib.hid y3; clear k5 k6 y0 y1 y2 y3) | (go_at_call 29; refine (Typ.wrap_any _ _ _).mono ?_; rintro e w' ⟨rfl, rfl⟩))
        go_quiet (first | (go_at_call 29; exact quiet_same0 (Typ.wrap_any _ _ _)) | (go_at_call 102; exact quiet_same0 (HU2.out _)))
        go_wp2
        first | (have s := put4 (w := w) (W := w5.drewN nq) (i := w.heap.size + 1 + 1 + 1) (.int .i64 0) (.int .i64 m) (.int .i64 u) (.int .i64 n.place) (by omega) (KX.out.drewN nq) Y3.out; have z0 := bx_cell s.1 0 _ rfl; have z1 := bx_cell s.1 1 _ rfl; have z2 := bx_cell s.1 2 _ rfl; have z3 := bx_cell s.1 3 _ rfl; have S := Lib.hid s.2; clear s HM HU2 a0 a1 a2 a3 b0 b1 b2 b3 r0 r1 r2 r3 rf n0 n6; simp [bodyPost, results, Try.f98, go_sem, z0, z1, z2, z3]; exact S.out) | (have s := put4 (w := w) (W := w5.drewN nq) (i := w.heap.size + 1 + 1 + 1) (.int .i64 v) (.int .i64 m) (.int .i64 0) (.int .i64 0) (by omega) (KX.out.drewN nq) Y3.out; have z0 := bx_cell s.1 0 _ rfl; have z1 := bx_cell s.1 1 _ rfl; have z2 := bx_cell s.1 2 _ rfl; have z3 := bx_cell s.1 3 _ rfl; have S := Lib.hid s.2; clear s HM HU2 a0 a1 a2 a3 b0 b1 b2 b3 r0 r1 r2 r3 rf n0 n6; simp [bodyPost, results, Try.f98, go_sem, z0, z1, z2, z3]; exact S.out)
  · have e : opA n a b = doA n.kind (upF (opdF a.t)) (wrapF (upF (opdF a.t)) a.v) b.v n.place := by unfold opA; rw [if_neg (by omega), if_pos hk]
    rw [e]; clear e
    obtain ⟨K, hK⟩ : ∃ K : Int, (n.kind : Int) = K := ⟨_, rfl⟩
    unfold ansVal exVal
    rw [hK]
    replace hk : K = 6 ∨ K = 7 ∨ K = 16 ∨ K = 17 := by omega
    have HM := Lib.hid (fun w => Typ.up_any (opdF a.t) w)
    generalize upF (opdF a.t) = m at *
    have HU : Hid (∀ x y w, Calls Try.prog 102 #[.int .i64 K, .int .i64 m, .int .i64 x, .int .i64 y] w fun e w' => e = .returned (.tuple #[.int .i64 (doV K m x y), .int .i64 (doU K m x y)]) ∧ w = w') := Lib.hid fun x y w => Typ.do_any _ _ _ _ w
    clear hK
    unfold doA
    generalize hu : doU K m (wrapF m a.v) b.v = u at *
    generalize hv : doV K m (wrapF m a.v) b.v = v at *
    have HU2 : Hid (∀ w, Calls Try.prog 102 #[.int .i64 K, .int .i64 m, .int .i64 (wrapF m a.v), .int .i64 b.v] w fun e w' => e = .returned (.tuple #[.int .i64 v, .int .i64 u]) ∧ w = w') := Lib.hid fun w => by have := HU.out (wrapF m a.v) b.v w; rw [hu, hv] at this; exact this
    clear HU hu hv
    by_cases hu0 : u = 0
    case' pos => subst hu0; rw [if_pos rfl]
    case' neg => rw [if_neg hu0]; have hub : (u != 0) = true := by simpa using hu0
    all_goals
      go_enter Try.func98, Try.ntmps98
      go_upto_region 1 with fail
      obtain ⟨x0, x1, x2, x3, kW⟩ := four w (.cells #[.int .i64 K, .int .i64 n.num, .int .i64 n.ty, .string ⟨n.name.toArray⟩, .int .i64 n.a, .int .i64 n.b, .int .i64 n.place] 146) (.cells #[.int .i64 a.v, .int .i64 a.t, .int .i64 a.ub, .int .i64 a.at_] 124) (.cells #[.int .i64 b.v, .int .i64 b.t, .int .i64 b.ub, .int .i64 b.at_] 124) (.cells #[.int .i64 0, .int .i64 0, .int .i64 0, .int .i64 0] 124)
      generalize ((((w.alloc (.cells #[.int .i64 K, .int .i64 n.num, .int .i64 n.ty, .string ⟨n.name.toArray⟩, .int .i64 n.a, .int .i64 n.b, .int .i64 n.place] 146)).alloc (.cells #[.int .i64 a.v, .int .i64 a.t, .int .i64 a.ub, .int .i64 a.at_] 124)).alloc (.cells #[.int .i64 b.v, .int .i64 b.t, .int .i64 b.ub, .int .i64 b.at_] 124)).alloc (.cells #[.int .i64 0, .int .i64 0, .int .i64 0, .int .i64 0] 124)) = W at *
      have n0 := bx_cell x0 0 _ rfl
      have n6 := bx_cell x0 6 _ rfl
      have a0 := bx_cell x1 0 _ rfl
      have a1 := bx_cell x1 1 _ rfl
      have a2 := bx_cell x1 2 _ rfl
      have a3 := bx_cell x1 3 _ rfl
      have b0 := bx_cell x2 0 _ rfl
      have b1 := bx_cell x2 1 _ rfl
      have b2 := bx_cell x2 2 _ rfl
      have b3 := bx_cell x2 3 _ rfl
      have r0 := bx_cell x3 0 _ rfl
      have r1 := bx_cell x3 1 _ rfl
      have r2 := bx_cell x3 2 _ rfl
      have r3 := bx_cell x3 3 _ rfl
      have rf := bx_froz x3
      have X := Lib.hid (And.intro x0 (And.intro x1 (And.intro x2 x3)))
      have KW := Lib.hid kW
      clear x0 x1 x2 x3 kW
      rcases hk with rfl | rfl | rfl | rfl
      all_goals
        go_quiet (first | (go_at_call 80; exact quiet_same0 (operand_any _ _)) | (go_at_call 91; exact quiet_same0 (HM.out _)) | (go_at_call 29; exact quiet_same0 (Typ.wrap_any _ _ _)) | (go_at_call 102; exact quiet_same0 (HU2.out _)))
        have k6 := (Kept.refl W).drewN nq
        have y0 := kh X.out.1 k6
        have y1 := kh X.out.2.1 k6
        have y2 := kh X.out.2.2.1 k6
        have y3 := kh X.out.2.2.2 k6
        have n0' := bx_cell y0 0 _ rfl
        have n6' := bx_cell y0 6 _ rfl
        have a0' := bx_cell y1 0 _ rfl
        have a1' := bx_cell y1 1 _ rfl
        have a2' := bx_cell y1 2 _ rfl
        have a3' := bx_cell y1 3 _ rfl
        have b0' := bx_cell y2 0 _ rfl
        have b1' := bx_cell y2 1 _ rfl
        have b2' := bx_cell y2 2 _ rfl
        have b3' := bx_cell y2 3 _ rfl
        have r0' := bx_cell y3 0 _ rfl
        have r1' := bx_cell y3 1 _ rfl
        have r2' := bx_cell y3 2 _ rfl
        have r3' := bx_cell y3 3 _ rfl
        have rf' := bx_froz y3
        have KX := Lib.hid (KW.out.trans k6)
        have Y3 := Lib.hid y3
        clear k6 y0 y1 y2 y3
        generalize W.drewN nq = w5 at *
        go_wp2_with (first | (go_at_call 29; refine (Typ.wrap_any _ _ _).mono ?_; rintro e w' ⟨rfl, rfl⟩))
        go_quiet (first | (go_at_call 29; exact quiet_same0 (Typ.wrap_any _ _ _)) | (go_at_call 102; exact quiet_same0 (HU2.out _)))
        go_wp2
        first | (have s := put4 (w := w) (W := w5.drewN nq) (i := w.heap.size + 1 + 1 + 1) (.int .i64 0) (.int .i64 m) (.int .i64 u) (.int .i64 n.place) (by omega) (KX.out.drewN nq) Y3.out; have z0 := bx_cell s.1 0 _ rfl; have z1 := bx_cell s.1 1 _ rfl; have z2 := bx_cell s.1 2 _ rfl; have z3 := bx_cell s.1 3 _ rfl; have S := Lib.hid s.2; clear s HM HU2 a0 a1 a2 a3 b0 b1 b2 b3 r0 r1 r2 r3 rf n0 n6; simp [bodyPost, results, Try.f98, go_sem, z0, z1, z2, z3]; exact S.out) | (have s := put4 (w := w) (W := w5.drewN nq) (i := w.heap.size + 1 + 1 + 1) (.int .i64 v) (.int .i64 m) (.int .i64 0) (.int .i64 0) (by omega) (KX.out.drewN nq) Y3.out; have z0 := bx_cell s.1 0 _ rfl; have z1 := bx_cell s.1 1 _ rfl; have z2 := bx_cell s.1 2 _ rfl; have z3 := bx_cell s.1 3 _ rfl; have S := Lib.hid s.2; clear s HM HU2 a0 a1 a2 a3 b0 b1 b2 b3 r0 r1 r2 r3 rf n0 n6; simp [bodyPost, results, Try.f98, go_sem, z0, z1, z2, z3]; exact S.out)
  · have e : opA n a b = Ans.none := by unfold opA; rw [if_neg hk, if_neg hk']
    rw [e]; clear e
    obtain ⟨K, hK⟩ : ∃ K : Int, (n.kind : Int) = K := ⟨_, rfl⟩
    unfold exVal
    rw [hK]
    have hno : Typ.NoK K := by
      rcases Typ.kinds K with h | h | h | h | h | h | h | h | h | h | h | h | h
      all_goals first | exact h.1 | (exfalso; omega)
    obtain ⟨h6, h7, h8, h9, h10, h11, h12, h13, h14, h15, h16, h17⟩ := hno
    have HA := Lib.hid (fun w => absent_any w)
    unfold ansVal Ans.none at HA
    unfold ansVal Ans.none
    clear hK hk hk'
    go_enter Try.func98, Try.ntmps98
    go_upto_region 1 with fail
    obtain ⟨x0, x1, x2, x3, kW⟩ := four w (.cells #[.int .i64 K, .int .i64 n.num, .int .i64 n.ty, .string ⟨n.name.toArray⟩, .int .i64 n.a, .int .i64 n.b, .int .i64 n.place] 146) (.cells #[.int .i64 a.v, .int .i64 a.t, .int .i64 a.ub, .int .i64 a.at_] 124) (.cells #[.int .i64 b.v, .int .i64 b.t, .int .i64 b.ub, .int .i64 b.at_] 124) (.cells #[.int .i64 0, .int .i64 0, .int .i64 0, .int .i64 0] 124)
    generalize ((((w.alloc (.cells #[.int .i64 K, .int .i64 n.num, .int .i64 n.ty, .string ⟨n.name.toArray⟩, .int .i64 n.a, .int .i64 n.b, .int .i64 n.place] 146)).alloc (.cells #[.int .i64 a.v, .int .i64 a.t, .int .i64 a.ub, .int .i64 a.at_] 124)).alloc (.cells #[.int .i64 b.v, .int .i64 b.t, .int .i64 b.ub, .int .i64 b.at_] 124)).alloc (.cells #[.int .i64 0, .int .i64 0, .int .i64 0, .int .i64 0] 124)) = W at *
    have n0 := bx_cell x0 0 _ rfl
    have n6 := bx_cell x0 6 _ rfl
    have a0 := bx_cell x1 0 _ rfl
    have a1 := bx_cell x1 1 _ rfl
    have a2 := bx_cell x1 2 _ rfl
    have a3 := bx_cell x1 3 _ rfl
    have b0 := bx_cell x2 0 _ rfl
    have b1 := bx_cell x2 1 _ rfl
    have b2 := bx_cell x2 2 _ rfl
    have b3 := bx_cell x2 3 _ rfl
    have r0 := bx_cell x3 0 _ rfl
    have r1 := bx_cell x3 1 _ rfl
    have r2 := bx_cell x3 2 _ rfl
    have r3 := bx_cell x3 3 _ rfl
    have rf := bx_froz x3
    have X := Lib.hid (And.intro x0 (And.intro x1 (And.intro x2 x3)))
    have KW := Lib.hid kW
    clear x0 x1 x2 x3 kW
    go_quiet (first | (go_at_call 80; exact quiet_same0 (operand_any _ _)) | (go_at_call 91; exact quiet_same0 (Typ.up_any _ _)) | (go_at_call 29; exact quiet_same0 (Typ.wrap_any _ _ _)))
    go_wp2_with (first | (go_at_call 94; refine (HA.out _).mono ?_; rintro e w5 ⟨rfl, k5⟩; have k6 := (Kept.refl W).drewN nq |>.trans k5; have y3 := kh X.out.2.2.2 k6; have r0' := bx_cell y3 0 _ rfl; have r1' := bx_cell y3 1 _ rfl; have r2' := bx_cell y3 2 _ rfl; have r3' := bx_cell y3 3 _ rfl; have rf' := bx_froz y3; have KX := Lib.hid (KW.out.trans k6); have Y3 := Lib.hid y3; clear k5 k6 y3))
    have s := put4 (w := w) (W := w5) (i := w.heap.size + 1 + 1 + 1) (.int .i64 0) (.int .i64 5) (.int .i64 0) (.int .i64 0) (by omega) KX.out Y3.out
    have z0 := bx_cell s.1 0 _ rfl
    have z1 := bx_cell s.1 1 _ rfl
    have z2 := bx_cell s.1 2 _ rfl
    have z3 := bx_cell s.1 3 _ rfl
    have S := Lib.hid s.2
    clear s HA a0 a1 a2 a3 b0 b1 b2 b3 r0 r1 r2 r3 rf n0 n6
    simp [bodyPost, results, Try.f98, go_sem, z0, z1, z2, z3]
    exact S.out
end Go.Proofs.Ythjnkjekidagiaa.Evl
