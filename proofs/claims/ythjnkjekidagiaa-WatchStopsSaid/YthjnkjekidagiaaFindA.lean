/-
  slices.Backward over a slice of binds: what it hands back (back_stops): the binds from the last one to the first.
-/
import Derived.Test.YthjnkjekidagiaaBase
import Derived.Test.YthjnkjekidagiaaRows
import Derived.RangeFuncNested
import Derived.RangeFuncBound
import Derived.RangeFuncCalls
import Derived.RangeFuncLeaves
import Derived.RangeFuncBox
import Derived.Shelf.Abstract
import Derived.Shelf.RegionOpen
import Derived.WalkKit
import Derived.OwnWalkIn
import Derived.TacticsInMore
import Derived.LoopNIn
import Derived.LoopIn
import Derived.Lib.Hide
namespace Go.Proofs.Ythjnkjekidagiaa.Fnd
open Go.RowKit Go.Shelf
attribute [local go_sem] Oper.semAt_some

/-- What a name stands for. -/
structure Bi where
  name : List UInt8
  t : Int
  size : Int
  id : Int
def Bi.none : Bi := ⟨[], 0, 0, 0⟩
def biVal (b : Bi) : Value := .agg #[.string ⟨b.name.toArray⟩, .int .i64 b.t, .int .i64 b.size, .int .i64 b.id]
def upto {α : Type} (f : Nat → α) (k : Nat) : List α := (List.range k).map f
theorem upto_succ {α : Type} (f : Nat → α) (k : Nat) : upto f (k + 1) = upto f k ++ [f k] := by simp [upto, List.range_succ]
theorem upto_length {α : Type} (f : Nat → α) (k : Nat) : (upto f k).length = k := by simp [upto]
/-- What comes k-th: the binds from the last one on. -/
def backF (zs : List Bi) (k : Nat) : Nat × Bi := (zs.length - 1 - k, zs[zs.length - 1 - k]?.getD Bi.none)
/-- The binds lie in a slice, below n₀. -/
def BindsAt (n₀ : Nat) (w : World) (v : Value) (zs : List Bi) : Prop :=
  zs.length ≤ 10000 ∧ ((v = .slice Option.none 0 0 ∧ zs = []) ∨ ∃ b cap, v = .slice (some ⟨b, 0, Option.none⟩) zs.length cap ∧ zs.length ≤ cap ∧ cap ≤ maxLen ∧ b < n₀ ∧ ∀ j (_ : j < zs.length),
    w.cell? ⟨b, j * 4, Option.none⟩ = some (.string ⟨(zs[j]?.getD Bi.none).name.toArray⟩) ∧ w.cell? ⟨b, j * 4 + 1, Option.none⟩ = some (.int .i64 (zs[j]?.getD Bi.none).t) ∧ w.cell? ⟨b, j * 4 + 2, Option.none⟩ = some (.int .i64 (zs[j]?.getD Bi.none).size) ∧ w.cell? ⟨b, j * 4 + 3, Option.none⟩ = some (.int .i64 (zs[j]?.getD Bi.none).id))
theorem BindsAt.below {n₀ : Nat} {w w' : World} {v : Value} {zs : List Bi} (h : BindsAt n₀ w v zs) (hb : Below n₀ w w') : BindsAt n₀ w' v zs := by
  obtain ⟨h0, h | ⟨b, cap, h1, h2, h3, h4, h5⟩⟩ := h
  · exact ⟨h0, .inl h⟩
  · refine ⟨h0, .inr ⟨b, cap, h1, h2, h3, h4, fun j hj => ?_⟩⟩
    obtain ⟨a1, a2, a3, a4⟩ := h5 j hj
    exact ⟨(hb.cell (p := ⟨b, j * 4, Option.none⟩) h4).trans a1, (hb.cell (p := ⟨b, j * 4 + 1, Option.none⟩) h4).trans a2, (hb.cell (p := ⟨b, j * 4 + 2, Option.none⟩) h4).trans a3, (hb.cell (p := ⟨b, j * 4 + 3, Option.none⟩) h4).trans a4⟩

set_option maxRecDepth 100000 in
set_option maxHeartbeats 2000000 in
theorem back1_in (F : Fence) (n : Nat) (h8 : F.fn 107) (hro : F.round = Option.none) (hn : 1 ≤ n) (l Bs n₀ b cap : Nat) (zs : List Bi) (h0l : 0 < zs.length) (hreach : zs.length ≤ 10000) (hb : b < n₀) (J Jx : List (Nat × Bi) → World → Prop)
    (hY : ∀ pre x W, J pre W → pre.length < zs.length → YieldAt F (n - 1) Try.prog l #[.int .i64 (x.1 : Nat), biVal x.2] W fun e W' =>
      (e = .returned (.bool true) ∧ J (pre ++ [x]) W' ∧ Below n₀ W W') ∨ (e = .returned (.bool false) ∧ Jx (pre ++ [x]) W'))
    (W : World) (hBn : Bs < n₀) (hBs : W.cell? ⟨Bs, 0, Option.none⟩ = some (.slice (some ⟨b, 0, Option.none⟩) zs.length cap)) (hc : ∀ j (_ : j < zs.length),
      W.cell? ⟨b, j * 4, Option.none⟩ = some (.string ⟨(zs[j]?.getD Bi.none).name.toArray⟩) ∧ W.cell? ⟨b, j * 4 + 1, Option.none⟩ = some (.int .i64 (zs[j]?.getD Bi.none).t) ∧ W.cell? ⟨b, j * 4 + 2, Option.none⟩ = some (.int .i64 (zs[j]?.getD Bi.none).size) ∧ W.cell? ⟨b, j * 4 + 3, Option.none⟩ = some (.int .i64 (zs[j]?.getD Bi.none).id)) (h0 : J [] W) :
    CallsIn F n Try.prog 107 #[.func (.yield l) #[] #[], .pointer (some ⟨Bs, 0, Option.none⟩)] W fun e W' => (∃ v, e = .returned v) ∧
      ((∃ ys, ys = upto (backF zs) zs.length ∧ J ys W') ∨ (∃ pre, (∃ k, k ≤ zs.length ∧ pre = upto (backF zs) k) ∧ Jx pre W')) := by
  refine callsIn_of_wp Try.func107 rfl h8 ?_ hro
  simp only [Try.ntmps107, List.size_toArray, List.length_cons, List.length_nil, Nat.reduceAdd, Nat.reduceSub, Array.replicate_succ, Array.replicate_zero, List.push_toArray, List.append_toArray, List.nil_append, List.cons_append]
  gi_wp2
  gi_loopw [3] (fun i wr => ∃ (k : Nat) (m : Int), m + 1 + k = zs.length ∧ -1 ≤ m ∧ i = .int .i64 m ∧ J (upto (backF zs) k) wr ∧ Below n₀ W wr)
    (fun i _ => (intOf i + 1).toNat)
  case atStart => exact ⟨0, (zs.length : Int) - 1, by omega, by omega, rfl, h0, Below.refl _ _⟩
  case round =>
    obtain ⟨k, m, hk, hm1, rfl, hJs, hnx⟩ := hrel
    have hcs := (hnx.cell (p := ⟨Bs, 0, Option.none⟩) hBn).trans hBs
    by_cases hlt : 0 ≤ m
    · obtain ⟨j, rfl⟩ := Int.eq_ofNat_of_zero_le hlt
      have hj : j = zs.length - 1 - k := by omega
      have hjl : j < zs.length := by omega
      have hbk : backF zs k = (j, zs[j]?.getD Bi.none) := by rw [hj]; rfl
      obtain ⟨fn, tmps, assign, body, hy, hR⟩ := hY _ (j, zs[j]?.getD Bi.none) wr hJs (by rw [upto_length]; omega)
      dsimp only at hy
      obtain ⟨a1, a2, a3, a4⟩ := hc j hjl
      have b1 := (hnx.cell (p := ⟨b, j * 4, Option.none⟩) hb).trans a1
      have b2 := (hnx.cell (p := ⟨b, j * 4 + 1, Option.none⟩) hb).trans a2
      have b3 := (hnx.cell (p := ⟨b, j * 4 + 2, Option.none⟩) hb).trans a3
      have b4 := (hnx.cell (p := ⟨b, j * 4 + 3, Option.none⟩) hb).trans a4
      clear a1 a2 a3 a4
      unfold biVal at hy
      generalize zs[j]?.getD Bi.none = x at *
      have Hk := Lib.hid (And.intro hk hbk)
      clear hk hj hbk hm1 hlt hc hBs h0l
      gi_wp2
      refine hR.mono ?_
      rintro e W3 (⟨rfl, hJ3, hk3⟩ | ⟨rfl, hJx3⟩)
      · gi_wp2
        go_roundw
        case rel => exact ⟨k + 1, (j : Int) - 1, by have := Hk.out.1; omega, by omega, by simp, by rw [upto_succ, Hk.out.2]; exact hJ3, hnx.trans hk3⟩
        case measure => simp [intOf]
      · gi_wp2
        refine bodyPost_ret (results_none rfl _ _ _) rfl ?_
        exact ⟨⟨_, rfl⟩, .inr ⟨_, ⟨k + 1, by have := Hk.out.1; omega, by rw [upto_succ, Hk.out.2]⟩, hJx3⟩⟩
    · obtain rfl : m = -1 := by omega
      obtain rfl : k = zs.length := by omega
      clear hk hm1 hlt hc hBs
      gi_wp2
      go_end0
      exact ⟨⟨_, rfl⟩, .inl ⟨_, rfl, hJs⟩⟩

set_option maxRecDepth 100000 in
set_option maxHeartbeats 1000000 in
theorem back1_nil_in (F : Fence) (n : Nat) (h8 : F.fn 107) (hro : F.round = Option.none) (l Bs : Nat) (J : List (Nat × Bi) → World → Prop) (W : World) (hBs : W.cell? ⟨Bs, 0, Option.none⟩ = some (.slice Option.none 0 0)) (h0 : J [] W) :
    CallsIn F n Try.prog 107 #[.func (.yield l) #[] #[], .pointer (some ⟨Bs, 0, Option.none⟩)] W fun e W' => (∃ v, e = .returned v) ∧ J [] W' := by
  refine callsIn_of_wp Try.func107 rfl h8 ?_ hro
  simp only [Try.ntmps107, List.size_toArray, List.length_cons, List.length_nil, Nat.reduceAdd, Nat.reduceSub, Array.replicate_succ, Array.replicate_zero, List.push_toArray, List.append_toArray, List.nil_append, List.cons_append]
  gi_wp2
  gi_loopw [3] (fun i wr => i = .int .i64 (-1) ∧ J [] wr) (fun _ _ => 0)
  case atStart => exact ⟨rfl, h0⟩
  case round =>
    obtain ⟨rfl, hJs⟩ := hrel
    gi_wp2
    go_end0
    exact ⟨⟨_, rfl⟩, hJs⟩

set_option maxRecDepth 100000 in
set_option maxHeartbeats 1000000 in
theorem back1_zero_in (F : Fence) (n : Nat) (h8 : F.fn 107) (hro : F.round = Option.none) (l Bs b cap : Nat) (J : List (Nat × Bi) → World → Prop) (W : World) (hBs : W.cell? ⟨Bs, 0, Option.none⟩ = some (.slice (some ⟨b, 0, Option.none⟩) 0 cap)) (h0 : J [] W) :
    CallsIn F n Try.prog 107 #[.func (.yield l) #[] #[], .pointer (some ⟨Bs, 0, Option.none⟩)] W fun e W' => (∃ v, e = .returned v) ∧ J [] W' := by
  refine callsIn_of_wp Try.func107 rfl h8 ?_ hro
  simp only [Try.ntmps107, List.size_toArray, List.length_cons, List.length_nil, Nat.reduceAdd, Nat.reduceSub, Array.replicate_succ, Array.replicate_zero, List.push_toArray, List.append_toArray, List.nil_append, List.cons_append]
  gi_wp2
  gi_loopw [3] (fun i wr => i = .int .i64 (-1) ∧ J [] wr) (fun _ _ => 0)
  case atStart => exact ⟨rfl, h0⟩
  case round =>
    obtain ⟨rfl, hJs⟩ := hrel
    gi_wp2
    go_end0
    exact ⟨⟨_, rfl⟩, hJs⟩

set_option maxHeartbeats 1000000 in
theorem back_in (F : Fence) (n : Nat) (h6 : F.fn 103) (hro : F.round = Option.none) (a : Option Addr) (len cap : Nat) (w : World) :
    CallsIn F n Try.prog 103 #[.slice a len cap] w fun e w' => e = .returned (.func (.func 107) #[] #[.pointer (some ⟨w.heap.size, 0, Option.none⟩)]) ∧ w' = w.alloc (.cells #[.slice a len cap] 47) := by
  refine callsIn_of_wp Try.func103 rfl h6 ?_ hro
  simp only [Try.ntmps103, List.size_toArray, List.length_cons, List.length_nil, Nat.reduceAdd, Nat.reduceSub, Array.replicate_succ, Array.replicate_zero, List.push_toArray, List.append_toArray, List.nil_append, List.cons_append]
  gi_wp2
  go_ret
  exact ⟨rfl, rfl⟩

/-- What slices.Backward hands back. -/
theorem back_stops (F : Fence) (n : Nat) (h8 : F.fn 107) (hro : F.round = Option.none) (hn : 1 ≤ n) (Bs n₀ : Nat) (sv : Value) (zs : List Bi) (w : World) (hBs : Bs < n₀) (hn₀ : n₀ ≤ w.heap.size)
    (hc : w.cell? ⟨Bs, 0, Option.none⟩ = some sv) (hI : BindsAt n₀ w sv zs) :
    SeqStopsK F n Try.prog 107 #[.pointer (some ⟨Bs, 0, Option.none⟩)] (fun x : Nat × Bi => #[Value.int .i64 (x.1 : Nat), biVal x.2]) (Below n₀) (fun ys => ys = upto (backF zs) zs.length)
      (fun pre => ∃ k, k ≤ zs.length ∧ pre = upto (backF zs) k) zs.length w := fun l J Jx W hW _ _ hY h0 => by
  have hc' := (hW.cell (p := ⟨Bs, 0, Option.none⟩) (by simp; omega)).trans hc
  obtain ⟨hr, ⟨rfl, rfl⟩ | ⟨b, cap, rfl, -, -, hb, hcs⟩⟩ := hI.below (hW.mono hn₀)
  · exact (back1_nil_in F n h8 hro l Bs J W hc' h0).mono fun e W' ⟨he, hj⟩ => ⟨he, .inl ⟨_, rfl, hj⟩⟩
  · by_cases h0l : 0 < zs.length
    · exact back1_in F n h8 hro hn l Bs n₀ b cap zs h0l hr hb J Jx hY W hBs hc' hcs h0
    · have hz : zs = [] := by cases zs with | nil => rfl | cons _ _ => simp at h0l
      subst hz
      refine back1_zero_in F n h8 hro l Bs b cap J W hc' h0 |>.mono fun e W' ⟨he, hj⟩ => ⟨he, .inl ⟨_, rfl, hj⟩⟩
end Go.Proofs.Ythjnkjekidagiaa.Fnd
