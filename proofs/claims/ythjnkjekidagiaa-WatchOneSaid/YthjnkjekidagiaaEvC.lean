/-
  Package eval: what a node has, its kids reckoned (node).
-/
import Derived.Test.YthjnkjekidagiaaEvB
namespace Go.Proofs.Ythjnkjekidagiaa.Evl
open Go.RowKit
open Typ (upF joinF wrapF doV doU)
open Prs (Ex)
open Fnd (Bi BindsAt findF foundV biVal bx_cell bx_froz)

def nodeA (n : Ex) (E : Env) (a b : Ans) : Ans :=
  if n.kind = 1 then ⟨n.num, n.ty, 0, 0⟩ else if n.kind = 2 ∨ n.kind = 3 then namedA n E a.v else if n.kind = 4 then a else if n.kind = 5 then ⟨E.res, E.t, 0, 0⟩ else if n.kind = 18 then ⟨wrapF n.ty a.v, n.ty, 0, 0⟩ else opA n a b
theorem five5 (w : World) (o0 o1 o2 o3 o4 : Obj) : (((((w.alloc o0).alloc o1).alloc o2).alloc o3).alloc o4).heap[w.heap.size]? = some o0 ∧ (((((w.alloc o0).alloc o1).alloc o2).alloc o3).alloc o4).heap[w.heap.size + 1]? = some o1 ∧ (((((w.alloc o0).alloc o1).alloc o2).alloc o3).alloc o4).heap[w.heap.size + 1 + 1]? = some o2 ∧
    (((((w.alloc o0).alloc o1).alloc o2).alloc o3).alloc o4).heap[w.heap.size + 1 + 1 + 1]? = some o3 ∧ (((((w.alloc o0).alloc o1).alloc o2).alloc o3).alloc o4).heap[w.heap.size + 1 + 1 + 1 + 1]? = some o4 ∧ Kept w (((((w.alloc o0).alloc o1).alloc o2).alloc o3).alloc o4) := by
  obtain ⟨h0, h1, h2, h3, hk⟩ := four w o0 o1 o2 o3
  have hs : ((((w.alloc o0).alloc o1).alloc o2).alloc o3).heap.size = w.heap.size + 1 + 1 + 1 + 1 := by simp
  have old : ∀ k o, ((((w.alloc o0).alloc o1).alloc o2).alloc o3).heap[k]? = some o → (((((w.alloc o0).alloc o1).alloc o2).alloc o3).alloc o4).heap[k]? = some o := fun k o h => (Below.heap_alloc _ _ _ (Array.getElem?_eq_some_iff.1 h).1).trans h
  refine ⟨old _ _ h0, old _ _ h1, old _ _ h2, old _ _ h3, ?_, hk.alloc _⟩
  have := World.alloc_heap_new ((((w.alloc o0).alloc o1).alloc o2).alloc o3) o4
  rw [hs] at this; exact this
set_option maxRecDepth 100000 in
set_option maxHeartbeats 4000000 in
theorem node_num (n : Ex) (w : World) (mv bv ov obv : Value) (E : Env) (a b : Ans) (hk : n.kind = 1) : Calls Try.prog 96 #[exVal n, envVal mv bv ov obv E, ansVal a, ansVal b] w fun e w' => e = .returned (ansVal (⟨n.num, n.ty, 0, 0⟩ : Ans)) ∧ Kept w w' := by
    obtain ⟨K, hK⟩ : ∃ K : Int, (n.kind : Int) = K := ⟨_, rfl⟩
    have q1 : (K == 1) = true := by simp; omega
    unfold ansVal exVal envVal
    rw [hK]
    clear hK
    go_enter Try.func96, Try.ntmps96
    go_upto_region 1 with fail
    obtain ⟨x0, x1, x2, x3, x4, kW⟩ := five5 w (.cells #[.int .i64 K, .int .i64 n.num, .int .i64 n.ty, .string ⟨n.name.toArray⟩, .int .i64 n.a, .int .i64 n.b, .int .i64 n.place] 146) (.cells #[mv, bv, ov, obv, .int .i64 E.res, .int .i64 E.t] 49) (.cells #[.int .i64 a.v, .int .i64 a.t, .int .i64 a.ub, .int .i64 a.at_] 124) (.cells #[.int .i64 b.v, .int .i64 b.t, .int .i64 b.ub, .int .i64 b.at_] 124) (.cells #[.int .i64 0, .int .i64 0, .int .i64 0, .int .i64 0] 124)
    generalize (((((w.alloc (.cells #[.int .i64 K, .int .i64 n.num, .int .i64 n.ty, .string ⟨n.name.toArray⟩, .int .i64 n.a, .int .i64 n.b, .int .i64 n.place] 146)).alloc (.cells #[mv, bv, ov, obv, .int .i64 E.res, .int .i64 E.t] 49)).alloc (.cells #[.int .i64 a.v, .int .i64 a.t, .int .i64 a.ub, .int .i64 a.at_] 124)).alloc (.cells #[.int .i64 b.v, .int .i64 b.t, .int .i64 b.ub, .int .i64 b.at_] 124)).alloc (.cells #[.int .i64 0, .int .i64 0, .int .i64 0, .int .i64 0] 124)) = W at *
    have n0 := bx_cell x0 0 _ rfl
    have n1 := bx_cell x0 1 _ rfl
    have n2 := bx_cell x0 2 _ rfl
    have n3 := bx_cell x0 3 _ rfl
    have n4 := bx_cell x0 4 _ rfl
    have n5 := bx_cell x0 5 _ rfl
    have n6 := bx_cell x0 6 _ rfl
    have e0 := bx_cell x1 0 _ rfl
    have e1 := bx_cell x1 1 _ rfl
    have e2 := bx_cell x1 2 _ rfl
    have e3 := bx_cell x1 3 _ rfl
    have e4 := bx_cell x1 4 _ rfl
    have e5 := bx_cell x1 5 _ rfl
    have a0 := bx_cell x2 0 _ rfl
    have a1 := bx_cell x2 1 _ rfl
    have a2 := bx_cell x2 2 _ rfl
    have a3 := bx_cell x2 3 _ rfl
    have b0 := bx_cell x3 0 _ rfl
    have b1 := bx_cell x3 1 _ rfl
    have b2 := bx_cell x3 2 _ rfl
    have b3 := bx_cell x3 3 _ rfl
    have r0 := bx_cell x4 0 _ rfl
    have r1 := bx_cell x4 1 _ rfl
    have r2 := bx_cell x4 2 _ rfl
    have r3 := bx_cell x4 3 _ rfl
    have rf := bx_froz x4
    have X := Lib.hid x4
    have KW := Lib.hid kW
    clear x0 x1 x2 x3 x4 kW
    go_wp2
    have s := put4 (w := w) (W := W) (i := w.heap.size + 1 + 1 + 1 + 1) (.int .i64 (n.num)) (.int .i64 (n.ty)) (.int .i64 (0)) (.int .i64 (0)) (by omega) KW.out X.out
    have z0 := bx_cell s.1 0 _ rfl
    have z1 := bx_cell s.1 1 _ rfl
    have z2 := bx_cell s.1 2 _ rfl
    have z3 := bx_cell s.1 3 _ rfl
    have S := Lib.hid s.2
    clear s
    simp [bodyPost, results, Try.f96, go_sem, z0, z1, z2, z3]
    exact S.out
set_option maxRecDepth 100000 in
set_option maxHeartbeats 4000000 in
theorem node_old (n : Ex) (w : World) (mv bv ov obv : Value) (E : Env) (a b : Ans) (hk : n.kind = 4) : Calls Try.prog 96 #[exVal n, envVal mv bv ov obv E, ansVal a, ansVal b] w fun e w' => e = .returned (ansVal a) ∧ Kept w w' := by
    obtain ⟨K, hK⟩ : ∃ K : Int, (n.kind : Int) = K := ⟨_, rfl⟩
    have q1 : (K == 1) = false := by simp; omega
    have q2 : (K == 2) = false := by simp; omega
    have q3 : (K == 3) = false := by simp; omega
    have q4 : (K == 4) = true := by simp; omega
    unfold ansVal exVal envVal
    rw [hK]
    clear hK
    go_enter Try.func96, Try.ntmps96
    go_upto_region 1 with fail
    obtain ⟨x0, x1, x2, x3, x4, kW⟩ := five5 w (.cells #[.int .i64 K, .int .i64 n.num, .int .i64 n.ty, .string ⟨n.name.toArray⟩, .int .i64 n.a, .int .i64 n.b, .int .i64 n.place] 146) (.cells #[mv, bv, ov, obv, .int .i64 E.res, .int .i64 E.t] 49) (.cells #[.int .i64 a.v, .int .i64 a.t, .int .i64 a.ub, .int .i64 a.at_] 124) (.cells #[.int .i64 b.v, .int .i64 b.t, .int .i64 b.ub, .int .i64 b.at_] 124) (.cells #[.int .i64 0, .int .i64 0, .int .i64 0, .int .i64 0] 124)
    generalize (((((w.alloc (.cells #[.int .i64 K, .int .i64 n.num, .int .i64 n.ty, .string ⟨n.name.toArray⟩, .int .i64 n.a, .int .i64 n.b, .int .i64 n.place] 146)).alloc (.cells #[mv, bv, ov, obv, .int .i64 E.res, .int .i64 E.t] 49)).alloc (.cells #[.int .i64 a.v, .int .i64 a.t, .int .i64 a.ub, .int .i64 a.at_] 124)).alloc (.cells #[.int .i64 b.v, .int .i64 b.t, .int .i64 b.ub, .int .i64 b.at_] 124)).alloc (.cells #[.int .i64 0, .int .i64 0, .int .i64 0, .int .i64 0] 124)) = W at *
    have n0 := bx_cell x0 0 _ rfl
    have n1 := bx_cell x0 1 _ rfl
    have n2 := bx_cell x0 2 _ rfl
    have n3 := bx_cell x0 3 _ rfl
    have n4 := bx_cell x0 4 _ rfl
    have n5 := bx_cell x0 5 _ rfl
    have n6 := bx_cell x0 6 _ rfl
    have e0 := bx_cell x1 0 _ rfl
    have e1 := bx_cell x1 1 _ rfl
    have e2 := bx_cell x1 2 _ rfl
    have e3 := bx_cell x1 3 _ rfl
    have e4 := bx_cell x1 4 _ rfl
    have e5 := bx_cell x1 5 _ rfl
    have a0 := bx_cell x2 0 _ rfl
    have a1 := bx_cell x2 1 _ rfl
    have a2 := bx_cell x2 2 _ rfl
    have a3 := bx_cell x2 3 _ rfl
    have b0 := bx_cell x3 0 _ rfl
    have b1 := bx_cell x3 1 _ rfl
    have b2 := bx_cell x3 2 _ rfl
    have b3 := bx_cell x3 3 _ rfl
    have r0 := bx_cell x4 0 _ rfl
    have r1 := bx_cell x4 1 _ rfl
    have r2 := bx_cell x4 2 _ rfl
    have r3 := bx_cell x4 3 _ rfl
    have rf := bx_froz x4
    have X := Lib.hid x4
    have KW := Lib.hid kW
    clear x0 x1 x2 x3 x4 kW
    go_wp2
    have s := put4 (w := w) (W := W) (i := w.heap.size + 1 + 1 + 1 + 1) (.int .i64 (a.v)) (.int .i64 (a.t)) (.int .i64 (a.ub)) (.int .i64 (a.at_)) (by omega) KW.out X.out
    have z0 := bx_cell s.1 0 _ rfl
    have z1 := bx_cell s.1 1 _ rfl
    have z2 := bx_cell s.1 2 _ rfl
    have z3 := bx_cell s.1 3 _ rfl
    have S := Lib.hid s.2
    clear s
    simp [bodyPost, results, Try.f96, go_sem, z0, z1, z2, z3]
    exact S.out
set_option maxRecDepth 100000 in
set_option maxHeartbeats 4000000 in
theorem node_result (n : Ex) (w : World) (mv bv ov obv : Value) (E : Env) (a b : Ans) (hk : n.kind = 5) : Calls Try.prog 96 #[exVal n, envVal mv bv ov obv E, ansVal a, ansVal b] w fun e w' => e = .returned (ansVal (⟨E.res, E.t, 0, 0⟩ : Ans)) ∧ Kept w w' := by
    obtain ⟨K, hK⟩ : ∃ K : Int, (n.kind : Int) = K := ⟨_, rfl⟩
    have q1 : (K == 1) = false := by simp; omega
    have q2 : (K == 2) = false := by simp; omega
    have q3 : (K == 3) = false := by simp; omega
    have q4 : (K == 4) = false := by simp; omega
    have q5 : (K == 5) = true := by simp; omega
    unfold ansVal exVal envVal
    rw [hK]
    clear hK
    go_enter Try.func96, Try.ntmps96
    go_upto_region 1 with fail
    obtain ⟨x0, x1, x2, x3, x4, kW⟩ := five5 w (.cells #[.int .i64 K, .int .i64 n.num, .int .i64 n.ty, .string ⟨n.name.toArray⟩, .int .i64 n.a, .int .i64 n.b, .int .i64 n.place] 146) (.cells #[mv, bv, ov, obv, .int .i64 E.res, .int .i64 E.t] 49) (.cells #[.int .i64 a.v, .int .i64 a.t, .int .i64 a.ub, .int .i64 a.at_] 124) (.cells #[.int .i64 b.v, .int .i64 b.t, .int .i64 b.ub, .int .i64 b.at_] 124) (.cells #[.int .i64 0, .int .i64 0, .int .i64 0, .int .i64 0] 124)
    generalize (((((w.alloc (.cells #[.int .i64 K, .int .i64 n.num, .int .i64 n.ty, .string ⟨n.name.toArray⟩, .int .i64 n.a, .int .i64 n.b, .int .i64 n.place] 146)).alloc (.cells #[mv, bv, ov, obv, .int .i64 E.res, .int .i64 E.t] 49)).alloc (.cells #[.int .i64 a.v, .int .i64 a.t, .int .i64 a.ub, .int .i64 a.at_] 124)).alloc (.cells #[.int .i64 b.v, .int .i64 b.t, .int .i64 b.ub, .int .i64 b.at_] 124)).alloc (.cells #[.int .i64 0, .int .i64 0, .int .i64 0, .int .i64 0] 124)) = W at *
    have n0 := bx_cell x0 0 _ rfl
    have n1 := bx_cell x0 1 _ rfl
    have n2 := bx_cell x0 2 _ rfl
    have n3 := bx_cell x0 3 _ rfl
    have n4 := bx_cell x0 4 _ rfl
    have n5 := bx_cell x0 5 _ rfl
    have n6 := bx_cell x0 6 _ rfl
    have e0 := bx_cell x1 0 _ rfl
    have e1 := bx_cell x1 1 _ rfl
    have e2 := bx_cell x1 2 _ rfl
    have e3 := bx_cell x1 3 _ rfl
    have e4 := bx_cell x1 4 _ rfl
    have e5 := bx_cell x1 5 _ rfl
    have a0 := bx_cell x2 0 _ rfl
    have a1 := bx_cell x2 1 _ rfl
    have a2 := bx_cell x2 2 _ rfl
    have a3 := bx_cell x2 3 _ rfl
    have b0 := bx_cell x3 0 _ rfl
    have b1 := bx_cell x3 1 _ rfl
    have b2 := bx_cell x3 2 _ rfl
    have b3 := bx_cell x3 3 _ rfl
    have r0 := bx_cell x4 0 _ rfl
    have r1 := bx_cell x4 1 _ rfl
    have r2 := bx_cell x4 2 _ rfl
    have r3 := bx_cell x4 3 _ rfl
    have rf := bx_froz x4
    have X := Lib.hid x4
    have KW := Lib.hid kW
    clear x0 x1 x2 x3 x4 kW
    go_wp2
    have s := put4 (w := w) (W := W) (i := w.heap.size + 1 + 1 + 1 + 1) (.int .i64 (E.res)) (.int .i64 (E.t)) (.int .i64 (0)) (.int .i64 (0)) (by omega) KW.out X.out
    have z0 := bx_cell s.1 0 _ rfl
    have z1 := bx_cell s.1 1 _ rfl
    have z2 := bx_cell s.1 2 _ rfl
    have z3 := bx_cell s.1 3 _ rfl
    have S := Lib.hid s.2
    clear s
    simp [bodyPost, results, Try.f96, go_sem, z0, z1, z2, z3]
    exact S.out
set_option maxRecDepth 100000 in
set_option maxHeartbeats 4000000 in
theorem node_var (n : Ex) (w : World) (mv bv ov obv : Value) (E : Env) (a b : Ans) (hk : n.kind = 2) (hE : EnvAt w mv bv ov obv E) : Calls Try.prog 96 #[exVal n, envVal mv bv ov obv E, ansVal a, ansVal b] w fun e w' => e = .returned (ansVal (namedA n E a.v)) ∧ Kept w w' := by
    obtain ⟨K, hK⟩ : ∃ K : Int, (n.kind : Int) = K := ⟨_, rfl⟩
    have q1 : (K == 1) = false := by simp; omega
    have q2 : (K == 2) = true := by simp; omega
    have HC : Hid (∀ w1, Kept w w1 → Calls Try.prog 97 #[exVal n, envVal mv bv ov obv E, .int .i64 a.v] w1 fun e w' => e = .returned (ansVal (namedA n E a.v)) ∧ Kept w1 w') := Lib.hid fun w1 hk1 => named_any n a.v w1 mv bv ov obv E (hE.kept hk1)
    generalize namedA n E a.v = V at *
    unfold ansVal exVal envVal at *
    rw [hK] at HC ⊢
    clear hK
    go_enter Try.func96, Try.ntmps96
    go_upto_region 1 with fail
    obtain ⟨x0, x1, x2, x3, x4, kW⟩ := five5 w (.cells #[.int .i64 K, .int .i64 n.num, .int .i64 n.ty, .string ⟨n.name.toArray⟩, .int .i64 n.a, .int .i64 n.b, .int .i64 n.place] 146) (.cells #[mv, bv, ov, obv, .int .i64 E.res, .int .i64 E.t] 49) (.cells #[.int .i64 a.v, .int .i64 a.t, .int .i64 a.ub, .int .i64 a.at_] 124) (.cells #[.int .i64 b.v, .int .i64 b.t, .int .i64 b.ub, .int .i64 b.at_] 124) (.cells #[.int .i64 0, .int .i64 0, .int .i64 0, .int .i64 0] 124)
    generalize (((((w.alloc (.cells #[.int .i64 K, .int .i64 n.num, .int .i64 n.ty, .string ⟨n.name.toArray⟩, .int .i64 n.a, .int .i64 n.b, .int .i64 n.place] 146)).alloc (.cells #[mv, bv, ov, obv, .int .i64 E.res, .int .i64 E.t] 49)).alloc (.cells #[.int .i64 a.v, .int .i64 a.t, .int .i64 a.ub, .int .i64 a.at_] 124)).alloc (.cells #[.int .i64 b.v, .int .i64 b.t, .int .i64 b.ub, .int .i64 b.at_] 124)).alloc (.cells #[.int .i64 0, .int .i64 0, .int .i64 0, .int .i64 0] 124)) = W at *
    have n0 := bx_cell x0 0 _ rfl
    have n1 := bx_cell x0 1 _ rfl
    have n2 := bx_cell x0 2 _ rfl
    have n3 := bx_cell x0 3 _ rfl
    have n4 := bx_cell x0 4 _ rfl
    have n5 := bx_cell x0 5 _ rfl
    have n6 := bx_cell x0 6 _ rfl
    have e0 := bx_cell x1 0 _ rfl
    have e1 := bx_cell x1 1 _ rfl
    have e2 := bx_cell x1 2 _ rfl
    have e3 := bx_cell x1 3 _ rfl
    have e4 := bx_cell x1 4 _ rfl
    have e5 := bx_cell x1 5 _ rfl
    have a0 := bx_cell x2 0 _ rfl
    have a1 := bx_cell x2 1 _ rfl
    have a2 := bx_cell x2 2 _ rfl
    have a3 := bx_cell x2 3 _ rfl
    have b0 := bx_cell x3 0 _ rfl
    have b1 := bx_cell x3 1 _ rfl
    have b2 := bx_cell x3 2 _ rfl
    have b3 := bx_cell x3 3 _ rfl
    have r0 := bx_cell x4 0 _ rfl
    have r1 := bx_cell x4 1 _ rfl
    have r2 := bx_cell x4 2 _ rfl
    have r3 := bx_cell x4 3 _ rfl
    have rf := bx_froz x4
    have X := Lib.hid x4
    have KW := Lib.hid kW
    clear x0 x1 x2 x3 x4 kW
    go_wp2_with (go_at_call 97; refine (HC.out _ KW.out).mono ?_; rintro e w7 ⟨rfl, k7⟩; have y := kh X.out k7; have r0' := bx_cell y 0 _ rfl; have r1' := bx_cell y 1 _ rfl; have r2' := bx_cell y 2 _ rfl; have r3' := bx_cell y 3 _ rfl; have rf' := bx_froz y; have Y := Lib.hid y; have KY := Lib.hid (KW.out.trans k7); clear k7 y)
    have s := put4 (w := w) (W := w7) (i := w.heap.size + 1 + 1 + 1 + 1) (.int .i64 V.v) (.int .i64 V.t) (.int .i64 V.ub) (.int .i64 V.at_) (by omega) KY.out Y.out
    have z0 := bx_cell s.1 0 _ rfl
    have z1 := bx_cell s.1 1 _ rfl
    have z2 := bx_cell s.1 2 _ rfl
    have z3 := bx_cell s.1 3 _ rfl
    have S := Lib.hid s.2
    clear s
    simp [bodyPost, results, Try.f96, go_sem, z0, z1, z2, z3]
    exact S.out
set_option maxRecDepth 100000 in
set_option maxHeartbeats 4000000 in
theorem node_elem (n : Ex) (w : World) (mv bv ov obv : Value) (E : Env) (a b : Ans) (hk : n.kind = 3) (hE : EnvAt w mv bv ov obv E) : Calls Try.prog 96 #[exVal n, envVal mv bv ov obv E, ansVal a, ansVal b] w fun e w' => e = .returned (ansVal (namedA n E a.v)) ∧ Kept w w' := by
    obtain ⟨K, hK⟩ : ∃ K : Int, (n.kind : Int) = K := ⟨_, rfl⟩
    have q1 : (K == 1) = false := by simp; omega
    have q2 : (K == 2) = false := by simp; omega
    have q3 : (K == 3) = true := by simp; omega
    have HC : Hid (∀ w1, Kept w w1 → Calls Try.prog 97 #[exVal n, envVal mv bv ov obv E, .int .i64 a.v] w1 fun e w' => e = .returned (ansVal (namedA n E a.v)) ∧ Kept w1 w') := Lib.hid fun w1 hk1 => named_any n a.v w1 mv bv ov obv E (hE.kept hk1)
    generalize namedA n E a.v = V at *
    unfold ansVal exVal envVal at *
    rw [hK] at HC ⊢
    clear hK
    go_enter Try.func96, Try.ntmps96
    go_upto_region 1 with fail
    obtain ⟨x0, x1, x2, x3, x4, kW⟩ := five5 w (.cells #[.int .i64 K, .int .i64 n.num, .int .i64 n.ty, .string ⟨n.name.toArray⟩, .int .i64 n.a, .int .i64 n.b, .int .i64 n.place] 146) (.cells #[mv, bv, ov, obv, .int .i64 E.res, .int .i64 E.t] 49) (.cells #[.int .i64 a.v, .int .i64 a.t, .int .i64 a.ub, .int .i64 a.at_] 124) (.cells #[.int .i64 b.v, .int .i64 b.t, .int .i64 b.ub, .int .i64 b.at_] 124) (.cells #[.int .i64 0, .int .i64 0, .int .i64 0, .int .i64 0] 124)
    generalize (((((w.alloc (.cells #[.int .i64 K, .int .i64 n.num, .int .i64 n.ty, .string ⟨n.name.toArray⟩, .int .i64 n.a, .int .i64 n.b, .int .i64 n.place] 146)).alloc (.cells #[mv, bv, ov, obv, .int .i64 E.res, .int .i64 E.t] 49)).alloc (.cells #[.int .i64 a.v, .int .i64 a.t, .int .i64 a.ub, .int .i64 a.at_] 124)).alloc (.cells #[.int .i64 b.v, .int .i64 b.t, .int .i64 b.ub, .int .i64 b.at_] 124)).alloc (.cells #[.int .i64 0, .int .i64 0, .int .i64 0, .int .i64 0] 124)) = W at *
    have n0 := bx_cell x0 0 _ rfl
    have n1 := bx_cell x0 1 _ rfl
    have n2 := bx_cell x0 2 _ rfl
    have n3 := bx_cell x0 3 _ rfl
    have n4 := bx_cell x0 4 _ rfl
    have n5 := bx_cell x0 5 _ rfl
    have n6 := bx_cell x0 6 _ rfl
    have e0 := bx_cell x1 0 _ rfl
    have e1 := bx_cell x1 1 _ rfl
    have e2 := bx_cell x1 2 _ rfl
    have e3 := bx_cell x1 3 _ rfl
    have e4 := bx_cell x1 4 _ rfl
    have e5 := bx_cell x1 5 _ rfl
    have a0 := bx_cell x2 0 _ rfl
    have a1 := bx_cell x2 1 _ rfl
    have a2 := bx_cell x2 2 _ rfl
    have a3 := bx_cell x2 3 _ rfl
    have b0 := bx_cell x3 0 _ rfl
    have b1 := bx_cell x3 1 _ rfl
    have b2 := bx_cell x3 2 _ rfl
    have b3 := bx_cell x3 3 _ rfl
    have r0 := bx_cell x4 0 _ rfl
    have r1 := bx_cell x4 1 _ rfl
    have r2 := bx_cell x4 2 _ rfl
    have r3 := bx_cell x4 3 _ rfl
    have rf := bx_froz x4
    have X := Lib.hid x4
    have KW := Lib.hid kW
    clear x0 x1 x2 x3 x4 kW
    go_wp2_with (go_at_call 97; refine (HC.out _ KW.out).mono ?_; rintro e w7 ⟨rfl, k7⟩; have y := kh X.out k7; have r0' := bx_cell y 0 _ rfl; have r1' := bx_cell y 1 _ rfl; have r2' := bx_cell y 2 _ rfl; have r3' := bx_cell y 3 _ rfl; have rf' := bx_froz y; have Y := Lib.hid y; have KY := Lib.hid (KW.out.trans k7); clear k7 y)
    have s := put4 (w := w) (W := w7) (i := w.heap.size + 1 + 1 + 1 + 1) (.int .i64 V.v) (.int .i64 V.t) (.int .i64 V.ub) (.int .i64 V.at_) (by omega) KY.out Y.out
    have z0 := bx_cell s.1 0 _ rfl
    have z1 := bx_cell s.1 1 _ rfl
    have z2 := bx_cell s.1 2 _ rfl
    have z3 := bx_cell s.1 3 _ rfl
    have S := Lib.hid s.2
    clear s
    simp [bodyPost, results, Try.f96, go_sem, z0, z1, z2, z3]
    exact S.out
set_option maxRecDepth 100000 in
set_option maxHeartbeats 4000000 in
theorem node_op (n : Ex) (w : World) (mv bv ov obv : Value) (E : Env) (a b : Ans) (hk : n.kind ≠ 1 ∧ n.kind ≠ 2 ∧ n.kind ≠ 3 ∧ n.kind ≠ 4 ∧ n.kind ≠ 5 ∧ n.kind ≠ 18) : Calls Try.prog 96 #[exVal n, envVal mv bv ov obv E, ansVal a, ansVal b] w fun e w' => e = .returned (ansVal (opA n a b)) ∧ Kept w w' := by
    obtain ⟨K, hK⟩ : ∃ K : Int, (n.kind : Int) = K := ⟨_, rfl⟩
    have q1 : (K == 1) = false := by simp; omega
    have q2 : (K == 2) = false := by simp; omega
    have q3 : (K == 3) = false := by simp; omega
    have q4 : (K == 4) = false := by simp; omega
    have q5 : (K == 5) = false := by simp; omega
    have q18 : (K == 18) = false := by simp; omega
    have HC : Hid (∀ w1, Kept w w1 → Calls Try.prog 98 #[exVal n, ansVal a, ansVal b] w1 fun e w' => e = .returned (ansVal (opA n a b)) ∧ Kept w1 w') := Lib.hid fun w1 hk1 => operator_any n a b w1
    generalize opA n a b = V at *
    unfold ansVal exVal envVal at *
    rw [hK] at HC ⊢
    clear hK
    go_enter Try.func96, Try.ntmps96
    go_upto_region 1 with fail
    obtain ⟨x0, x1, x2, x3, x4, kW⟩ := five5 w (.cells #[.int .i64 K, .int .i64 n.num, .int .i64 n.ty, .string ⟨n.name.toArray⟩, .int .i64 n.a, .int .i64 n.b, .int .i64 n.place] 146) (.cells #[mv, bv, ov, obv, .int .i64 E.res, .int .i64 E.t] 49) (.cells #[.int .i64 a.v, .int .i64 a.t, .int .i64 a.ub, .int .i64 a.at_] 124) (.cells #[.int .i64 b.v, .int .i64 b.t, .int .i64 b.ub, .int .i64 b.at_] 124) (.cells #[.int .i64 0, .int .i64 0, .int .i64 0, .int .i64 0] 124)
    generalize (((((w.alloc (.cells #[.int .i64 K, .int .i64 n.num, .int .i64 n.ty, .string ⟨n.name.toArray⟩, .int .i64 n.a, .int .i64 n.b, .int .i64 n.place] 146)).alloc (.cells #[mv, bv, ov, obv, .int .i64 E.res, .int .i64 E.t] 49)).alloc (.cells #[.int .i64 a.v, .int .i64 a.t, .int .i64 a.ub, .int .i64 a.at_] 124)).alloc (.cells #[.int .i64 b.v, .int .i64 b.t, .int .i64 b.ub, .int .i64 b.at_] 124)).alloc (.cells #[.int .i64 0, .int .i64 0, .int .i64 0, .int .i64 0] 124)) = W at *
    have n0 := bx_cell x0 0 _ rfl
    have n1 := bx_cell x0 1 _ rfl
    have n2 := bx_cell x0 2 _ rfl
    have n3 := bx_cell x0 3 _ rfl
    have n4 := bx_cell x0 4 _ rfl
    have n5 := bx_cell x0 5 _ rfl
    have n6 := bx_cell x0 6 _ rfl
    have e0 := bx_cell x1 0 _ rfl
    have e1 := bx_cell x1 1 _ rfl
    have e2 := bx_cell x1 2 _ rfl
    have e3 := bx_cell x1 3 _ rfl
    have e4 := bx_cell x1 4 _ rfl
    have e5 := bx_cell x1 5 _ rfl
    have a0 := bx_cell x2 0 _ rfl
    have a1 := bx_cell x2 1 _ rfl
    have a2 := bx_cell x2 2 _ rfl
    have a3 := bx_cell x2 3 _ rfl
    have b0 := bx_cell x3 0 _ rfl
    have b1 := bx_cell x3 1 _ rfl
    have b2 := bx_cell x3 2 _ rfl
    have b3 := bx_cell x3 3 _ rfl
    have r0 := bx_cell x4 0 _ rfl
    have r1 := bx_cell x4 1 _ rfl
    have r2 := bx_cell x4 2 _ rfl
    have r3 := bx_cell x4 3 _ rfl
    have rf := bx_froz x4
    have X := Lib.hid x4
    have KW := Lib.hid kW
    clear x0 x1 x2 x3 x4 kW
    go_wp2_with (go_at_call 98; refine (HC.out _ KW.out).mono ?_; rintro e w7 ⟨rfl, k7⟩; have y := kh X.out k7; have r0' := bx_cell y 0 _ rfl; have r1' := bx_cell y 1 _ rfl; have r2' := bx_cell y 2 _ rfl; have r3' := bx_cell y 3 _ rfl; have rf' := bx_froz y; have Y := Lib.hid y; have KY := Lib.hid (KW.out.trans k7); clear k7 y)
    have s := put4 (w := w) (W := w7) (i := w.heap.size + 1 + 1 + 1 + 1) (.int .i64 V.v) (.int .i64 V.t) (.int .i64 V.ub) (.int .i64 V.at_) (by omega) KY.out Y.out
    have z0 := bx_cell s.1 0 _ rfl
    have z1 := bx_cell s.1 1 _ rfl
    have z2 := bx_cell s.1 2 _ rfl
    have z3 := bx_cell s.1 3 _ rfl
    have S := Lib.hid s.2
    clear s
    simp [bodyPost, results, Try.f96, go_sem, z0, z1, z2, z3]
    exact S.out
set_option maxRecDepth 100000 in
set_option maxHeartbeats 4000000 in
theorem node_cast (n : Ex) (w : World) (mv bv ov obv : Value) (E : Env) (a b : Ans) (hk : n.kind = 18) : Calls Try.prog 96 #[exVal n, envVal mv bv ov obv E, ansVal a, ansVal b] w fun e w' => e = .returned (ansVal (⟨wrapF n.ty a.v, n.ty, 0, 0⟩ : Ans)) ∧ Kept w w' := by
    obtain ⟨K, hK⟩ : ∃ K : Int, (n.kind : Int) = K := ⟨_, rfl⟩
    have q1 : (K == 1) = false := by simp; omega
    have q2 : (K == 2) = false := by simp; omega
    have q3 : (K == 3) = false := by simp; omega
    have q4 : (K == 4) = false := by simp; omega
    have q5 : (K == 5) = false := by simp; omega
    have q18 : (K == 18) = true := by simp; omega
    unfold ansVal exVal envVal
    rw [hK]
    clear hK
    go_enter Try.func96, Try.ntmps96
    go_upto_region 1 with fail
    obtain ⟨x0, x1, x2, x3, x4, kW⟩ := five5 w (.cells #[.int .i64 K, .int .i64 n.num, .int .i64 n.ty, .string ⟨n.name.toArray⟩, .int .i64 n.a, .int .i64 n.b, .int .i64 n.place] 146) (.cells #[mv, bv, ov, obv, .int .i64 E.res, .int .i64 E.t] 49) (.cells #[.int .i64 a.v, .int .i64 a.t, .int .i64 a.ub, .int .i64 a.at_] 124) (.cells #[.int .i64 b.v, .int .i64 b.t, .int .i64 b.ub, .int .i64 b.at_] 124) (.cells #[.int .i64 0, .int .i64 0, .int .i64 0, .int .i64 0] 124)
    generalize (((((w.alloc (.cells #[.int .i64 K, .int .i64 n.num, .int .i64 n.ty, .string ⟨n.name.toArray⟩, .int .i64 n.a, .int .i64 n.b, .int .i64 n.place] 146)).alloc (.cells #[mv, bv, ov, obv, .int .i64 E.res, .int .i64 E.t] 49)).alloc (.cells #[.int .i64 a.v, .int .i64 a.t, .int .i64 a.ub, .int .i64 a.at_] 124)).alloc (.cells #[.int .i64 b.v, .int .i64 b.t, .int .i64 b.ub, .int .i64 b.at_] 124)).alloc (.cells #[.int .i64 0, .int .i64 0, .int .i64 0, .int .i64 0] 124)) = W at *
    have n0 := bx_cell x0 0 _ rfl
    have n1 := bx_cell x0 1 _ rfl
    have n2 := bx_cell x0 2 _ rfl
    have n3 := bx_cell x0 3 _ rfl
    have n4 := bx_cell x0 4 _ rfl
    have n5 := bx_cell x0 5 _ rfl
    have n6 := bx_cell x0 6 _ rfl
    have e0 := bx_cell x1 0 _ rfl
    have e1 := bx_cell x1 1 _ rfl
    have e2 := bx_cell x1 2 _ rfl
    have e3 := bx_cell x1 3 _ rfl
    have e4 := bx_cell x1 4 _ rfl
    have e5 := bx_cell x1 5 _ rfl
    have a0 := bx_cell x2 0 _ rfl
    have a1 := bx_cell x2 1 _ rfl
    have a2 := bx_cell x2 2 _ rfl
    have a3 := bx_cell x2 3 _ rfl
    have b0 := bx_cell x3 0 _ rfl
    have b1 := bx_cell x3 1 _ rfl
    have b2 := bx_cell x3 2 _ rfl
    have b3 := bx_cell x3 3 _ rfl
    have r0 := bx_cell x4 0 _ rfl
    have r1 := bx_cell x4 1 _ rfl
    have r2 := bx_cell x4 2 _ rfl
    have r3 := bx_cell x4 3 _ rfl
    have rf := bx_froz x4
    have X := Lib.hid x4
    have KW := Lib.hid kW
    clear x0 x1 x2 x3 x4 kW
    go_wp2
    have s := put4b (w := w) (W := W) (i := w.heap.size + 1 + 1 + 1 + 1) (.int .i64 (wrapF n.ty a.v)) (.int .i64 n.ty) (.int .i64 0) (.int .i64 0) (by omega) KW.out X.out
    have p1 := (World.cell?_of_block (a := ⟨w.heap.size, 2, none⟩) (s.2.2 w.heap.size (by omega))).trans n2
    have p2 := (World.cell?_of_block (a := ⟨w.heap.size + 1 + 1, 0, none⟩) (s.2.2 (w.heap.size + 1 + 1) (by omega))).trans a0
    have SS := Lib.hid s
    clear s
    go_region_held3 (fun w' => w'.cell? ⟨w.heap.size, 2, none⟩ = some (.int .i64 n.ty) ∧ w'.cell? ⟨w.heap.size + 1 + 1, 0, none⟩ = some (.int .i64 a.v)) (first | go_keep | exact ⟨n2, a0⟩ | exact ⟨p1, p2⟩) (first | (go_at_call 29; refine (Typ.wrap_any _ _ _).mono ?_; rintro e w' ⟨rfl, rfl⟩))
    all_goals
      go_wp2
      have s := SS.out
      have z0 := bx_cell s.1 0 _ rfl
      have z1 := bx_cell s.1 1 _ rfl
      have z2 := bx_cell s.1 2 _ rfl
      have z3 := bx_cell s.1 3 _ rfl
      have S := Lib.hid s.2.1.drew
      clear s p1 p2
      simp [bodyPost, results, Try.f96, go_sem, z0, z1, z2, z3]
      exact S.out
theorem node_any (n : Ex) (w : World) (mv bv ov obv : Value) (E : Env) (a b : Ans) (hE : EnvAt w mv bv ov obv E) : Calls Try.prog 96 #[exVal n, envVal mv bv ov obv E, ansVal a, ansVal b] w fun e w' => e = .returned (ansVal (nodeA n E a b)) ∧ Kept w w' := by
  unfold nodeA
  by_cases h1 : n.kind = 1
  · rw [if_pos h1]; exact node_num n w mv bv ov obv E a b h1
  rw [if_neg h1]
  by_cases h2 : n.kind = 2
  · rw [if_pos (.inl h2)]; exact node_var n w mv bv ov obv E a b h2 hE
  by_cases h3 : n.kind = 3
  · rw [if_pos (.inr h3)]; exact node_elem n w mv bv ov obv E a b h3 hE
  rw [if_neg (by omega)]
  by_cases h4 : n.kind = 4
  · rw [if_pos h4]; exact node_old n w mv bv ov obv E a b h4
  rw [if_neg h4]
  by_cases h5 : n.kind = 5
  · rw [if_pos h5]; exact node_result n w mv bv ov obv E a b h5
  rw [if_neg h5]
  by_cases h6 : n.kind = 18
  · rw [if_pos h6]; exact node_cast n w mv bv ov obv E a b h6
  rw [if_neg h6]
  exact node_op n w mv bv ov obv E a b ⟨h1, h2, h3, h4, h5, h6⟩
end Go.Proofs.Ythjnkjekidagiaa.Evl
