/-
  Package shape: sets in memory; within, add, drop; math/bits.TrailingZeros64, OnesCount64 as this program has them.
-/
import Derived.Test.YtpkebokfbigggaaDoorShpA
import Derived.Test.YtpkebokfbigggaaDoorShpW
import Derived.StillTailTactics
namespace Go.Proofs.YtpkebokfbigggaaDoor.Shp
open Go.RowKit

/-- The table that TrailingZeros64 reads. -/
def Tab (w : World) : Prop := ∀ j, j < 64 → w.cell? ⟨0, j, none⟩ = some (.int .u8 (Lib.deBruijn64tab.getD j 0 : Nat))
theorem Tab.kept {w w' : World} (h : Tab w) (hk : Kept w w') : Tab w' := fun j hj => by
  have h1 := h j hj
  exact (World.cell?_of_block (hk.block _ (block_lt_of_cell h1))).trans h1
theorem Tab.of_heap {w w' : World} (h : Tab w) (hk : w'.heap = w.heap) : Tab w' := fun j hj => by
  have h1 := h j hj
  unfold World.cell? at h1 ⊢
  rw [hk]; exact h1

set_option maxRecDepth 100000 in
set_option maxHeartbeats 1000000 in
theorem tz_core (x k idx : Nat) (w : World) (hx : x < 18446744073709551616) (hx0 : ((x : Int) == 0) = false)
    (key : IntKind.u64.wrap (bits BinOp.and IntKind.u64 (x : Int) (IntKind.u64.wrap (-(x : Int))) * 285870213051353865) / 288230376151711744 = (idx : Int))
    (hi : idx < 64) (hk : k < 64) (hcell : w.cell? ⟨0, idx, none⟩ = some (.int .u8 (k : Nat))) :
    Calls Tryd.prog 36 #[.int .u64 (x : Int)] w fun e w' => e = .returned (.int .i64 (k : Nat)) ∧ w' = w := by
  go_enter Tryd.func36, Tryd.ntmps36
  go_wp2_with (simp only [key])
  go_ret
  exact ⟨rfl, rfl⟩
theorem tz_key (x a : Nat) (hx : x < 18446744073709551616) (hx0 : x ≠ 0) (hlow : x &&& (18446744073709551616 - x) = a) :
    IntKind.u64.wrap (bits BinOp.and IntKind.u64 (x : Int) (IntKind.u64.wrap (-(x : Int))) * 285870213051353865) / 288230376151711744 = ((a * 285870213051353865 % 18446744073709551616 / 288230376151711744 : Nat) : Int) := by
  have e1 : IntKind.u64.wrap (-(x : Int)) = ((18446744073709551616 - x : Nat) : Int) := by rw [IntKind.wrap_u64]; omega
  rw [e1, bits_and_u64_nat x _ hx (by omega), hlow, IntKind.wrap_u64]
  omega
theorem tz_any (w : World) (x : Nat) (hx : x < 18446744073709551616) (hx0 : x ≠ 0) (hT : Tab w) :
    Calls Tryd.prog 36 #[.int .u64 (x : Int)] w fun e w' => e = .returned (.int .i64 (Lib.ctz 64 x : Nat)) ∧ w' = w := by
  obtain ⟨hlow, hk⟩ := Lib.lowest_bit 64 x hx0 hx
  obtain ⟨hi, htab⟩ := Lib.deBruijn64_at _ hk
  have hcell := hT _ hi
  rw [htab] at hcell
  exact tz_core x _ _ w hx (by simp; omega) (tz_key x _ hx hx0 hlow) hi hk hcell

set_option maxRecDepth 100000 in
set_option maxHeartbeats 1000000 in
theorem within_any (w : World) (a n : Int) : Calls Tryd.prog 30 #[.int .i64 a, .int .i64 n] w fun e w' => e = .returned (.bool (decide (0 ≤ a ∧ a < n))) ∧ w' = w := by
  by_cases h : 0 ≤ a
  · have h1 : decide (a < 0) = false := decide_eq_false (by omega)
    have e : decide (0 ≤ a ∧ a < n) = decide (a < n) := by rw [decide_eq_decide]; omega
    rw [e]
    go_enter Tryd.func30, Tryd.ntmps30
    go_wp2
    go_ret
    exact ⟨rfl, rfl⟩
  · have h1 : decide (a < 0) = true := decide_eq_true (by omega)
    have e : decide (0 ≤ a ∧ a < n) = false := decide_eq_false (by omega)
    rw [e]
    go_enter Tryd.func30, Tryd.ntmps30
    go_wp2
    go_ret
    exact ⟨rfl, rfl⟩

set_option maxRecDepth 100000 in
set_option maxHeartbeats 1000000 in
theorem ones_core (w : World) (x a1 b1 y1 a2 b2 y2 s3 y3 y4 y5 y6 n : Nat) (hx : x < 4294967296)
    (h1 : bits .and .u64 ((x : Int) / 2) 6148914691236517205 = (a1 : Int)) (h2 : bits .and .u64 (x : Int) 6148914691236517205 = (b1 : Int)) (h3 : (a1 : Int) + b1 = y1) (k1 : y1 < 4294967296)
    (h4 : bits .and .u64 ((y1 : Int) / 4) 3689348814741910323 = (a2 : Int)) (h5 : bits .and .u64 (y1 : Int) 3689348814741910323 = (b2 : Int)) (h6 : (a2 : Int) + b2 = y2) (k2 : y2 < 4294967296)
    (h7 : (y2 : Int) / 16 + y2 = s3) (h8 : bits .and .u64 (s3 : Int) 1085102592571150095 = (y3 : Int)) (k3 : y3 < 4294967296)
    (h9 : (y3 : Int) + y3 / 256 = y4) (k4 : y4 < 8589934592) (h10 : (y4 : Int) + y4 / 65536 = y5) (k5 : y5 < 17179869184) (h11 : (y5 : Int) + y5 / 4294967296 = y6) (k6 : y6 < 34359738368) (h12 : bits .and .i64 (y6 : Int) 127 = (n : Int)) :
    Calls Tryd.prog 42 #[.int .u64 (x : Int)] w fun e w' => e = .returned (.int .i64 (n : Nat)) ∧ w' = w := by
  have k7 : s3 < 8589934592 := by omega
  go_enter Tryd.func42, Tryd.ntmps42
  go_wp2
  go_ret
  exact ⟨rfl, rfl⟩
theorem and_cast {a b c : Nat} (ha : a < 18446744073709551616) (hb : b < 18446744073709551616) (h : a &&& b = c) : bits .and .u64 (a : Int) (b : Int) = (c : Int) := by rw [bits_and_u64_nat a b ha hb, h]
theorem and127 {y n : Nat} (hy : y < 34359738368) (h : y &&& 127 = n) : bits .and .i64 (y : Int) 127 = (n : Int) := by
  have h1 : (BitVec.ofInt 64 (y : Int)).toNat = y := by
    rw [BitVec.ofInt_natCast, BitVec.toNat_ofNat]; exact Nat.mod_eq_of_lt (by omega)
  have h2 : (BitVec.ofInt 64 ((127 : Nat) : Int)).toNat = 127 := by decide
  show IntKind.i64.wrap ((BitVec.ofInt 64 (y : Int) &&& BitVec.ofInt 64 ((127 : Nat) : Int)).toNat : Int) = _
  rw [BitVec.toNat_and, h1, h2, h]
  have : n ≤ 127 := by rw [← h]; exact Nat.and_le_right
  exact IntWalk.i64_in _ (by omega)
theorem ones_any (w : World) (x : Nat) (hx : x < 4294967296) : Calls Tryd.prog 42 #[.int .u64 (x : Int)] w fun e w' => e = .returned (.int .i64 ((bitsL x).length : Nat)) ∧ w' = w := by
  obtain ⟨y1, y2, y3, y4, y5, y6, h1, h2, h3, h4, h5, h6, h7, k1, k2, k3, k4, k5, k6⟩ := ones_is hx
  have d1 : ((x : Int) / 2) = ((x / 2 : Nat) : Int) := by omega
  have d2 : ((y1 : Int) / 4) = ((y1 / 4 : Nat) : Int) := by omega
  have d3 : (y2 : Int) / 16 + y2 = ((y2 / 16 + y2 : Nat) : Int) := by omega
  exact ones_core w x _ _ y1 _ _ y2 _ y3 y4 y5 y6 _ hx (by rw [d1]; exact and_cast (b := 6148914691236517205) (by omega) (by decide) rfl) (and_cast (b := 6148914691236517205) (by omega) (by decide) rfl) (by rw [← h1]; rfl) k1
    (by rw [d2]; exact and_cast (b := 3689348814741910323) (by omega) (by decide) rfl) (and_cast (b := 3689348814741910323) (by omega) (by decide) rfl) (by rw [← h2]; rfl) k2 d3 (and_cast (b := 1085102592571150095) (by omega) (by decide) h3) k3
    (by rw [← h4]; rfl) k4 (by rw [← h5]; rfl) k5 (by rw [← h6]; rfl) k6 (and127 k6 h7)
theorem shl_one {k : Nat} (h : k < 64) : 2 ^ k < 18446744073709551616 := by
  have := Nat.pow_lt_pow_right (a := 2) (by decide) h; simpa using this
theorem shl_cast {k : Nat} (h : k < 64) : IntKind.u64.wrap ((2 : Int) ^ k) = ((2 ^ k : Nat) : Int) := by
  have hp := shl_one h
  have e : ((2 : Int) ^ k) = ((2 ^ k : Nat) : Int) := by simp
  rw [e, IntKind.wrap_u64]
  generalize 2 ^ k = q at *
  omega
/-- A set lies in 32 cells from here on. -/
def SetAt (w : World) (b o x : Nat) : Prop := ∀ i, i < 32 → w.cell? ⟨b, o + i, none⟩ = some (.int .u64 (wd x i : Nat)) ∧ w.frozen? ⟨b, o + i, none⟩ = false
/-- The worlds have the same memory. -/
structure Same (w w' : World) : Prop where
  heap : w'.heap = w.heap
  os : w'.os = w.os
  tape : w'.tape = w.tape
  output : w'.output = w.output
theorem Same.refl (w : World) : Same w w := ⟨rfl, rfl, rfl, rfl⟩
theorem Same.trans {a b c : World} (h : Same a b) (k : Same b c) : Same a c := ⟨k.heap.trans h.heap, k.os.trans h.os, k.tape.trans h.tape, k.output.trans h.output⟩
theorem Same.drewN (w : World) (n : Nat) : Same w (w.drewN n) := ⟨rfl, rfl, rfl, rfl⟩
theorem Same.chg {S : Nat → Prop} {w w' : World} (h : Same w w') : Chg S w w' := ⟨h.os, h.tape, h.output, by rw [h.heap]; exact Nat.le_refl _, fun k _ _ => by rw [h.heap]⟩
theorem Same.cell {w w' : World} (h : Same w w') (a : Addr) : w'.cell? a = w.cell? a := by unfold World.cell?; rw [h.heap]
theorem Same.frozen {w w' : World} (h : Same w w') (a : Addr) : w'.frozen? a = w.frozen? a := by unfold World.frozen?; rw [h.heap]
theorem Same.set {w w' : World} (h : Same w w') (a : Addr) (v : Value) : Same (w.setCell a v) (w'.setCell a v) := ⟨by unfold World.setCell; simp [h.heap], h.os, h.tape, h.output⟩

set_option maxRecDepth 100000 in
set_option maxHeartbeats 1000000 in
theorem add_any (w : World) (b o x k : Nat) (hx : x < 18446744073709551616) (hk : k < 64) (hs : SetAt w b o x) :
    Calls Tryd.prog 35 #[.pointer (some ⟨b, o, none⟩), .int .i64 (k : Int)] w fun e w' => e = .returned (.tuple #[]) ∧ Same (w.setCell ⟨b, o, none⟩ (.int .u64 ((x ||| 2 ^ k : Nat) : Int))) w' := by
  have hd : (k : Int).tdiv 64 = 0 := by rw [Int.tdiv_eq_ediv_of_nonneg (by omega)]; omega
  have hm : (k : Int).tmod 64 = (k : Int) := by rw [Int.tmod_eq_emod_of_nonneg (by omega)]; omega
  have hw0 : IntKind.i64.wrap 0 = 0 := by decide
  obtain ⟨c0, f0⟩ := hs 0 (by decide)
  rw [wd_zero, Nat.add_zero] at c0
  rw [Nat.add_zero] at f0
  have hp := shl_one hk
  have hor : bits .or .u64 (x : Int) ((2 ^ k : Nat) : Int) = ((x ||| 2 ^ k : Nat) : Int) := bits_or_u64_nat _ _ hx hp
  have hsh := shl_cast hk
  generalize hq : (2 ^ k : Nat) = q at hp hor hsh ⊢
  clear hq
  go_enter Tryd.func35, Tryd.ntmps35
  refine wp_region_still_tail 12 (by kernel_rfl) (by kernel_rfl) ?_
  change wpStill _ _ w.drew (fun a' => wpList _ _ _ _ a' w.drew) _ _
  have hw := Same.drewN w 1
  rw [← hw.cell] at c0
  rw [← hw.frozen] at f0
  change Same w w.drew at hw
  change w.drew.cell? _ = _ at c0
  change w.drew.frozen? _ = _ at f0
  generalize w.drew = w5 at *
  simp only [List.take_succ_cons, List.take_zero, List.drop_succ_cons, List.drop_zero]
  repeat still_step
  refine wpStill_nil ?_
  go_wp2
  go_end0
  exact ⟨rfl, hw.set _ _⟩
set_option maxRecDepth 100000 in
set_option maxHeartbeats 1000000 in
theorem drop_any (w : World) (b o x k : Nat) (hx : x < 18446744073709551616) (hk : k < 64) (hs : SetAt w b o x) :
    Calls Tryd.prog 41 #[.pointer (some ⟨b, o, none⟩), .int .i64 (k : Int)] w fun e w' => e = .returned (.tuple #[]) ∧ Same (w.setCell ⟨b, o, none⟩ (.int .u64 ((lessN x (2 ^ k) : Nat) : Int))) w' := by
  have hd : (k : Int).tdiv 64 = 0 := by rw [Int.tdiv_eq_ediv_of_nonneg (by omega)]; omega
  have hm : (k : Int).tmod 64 = (k : Int) := by rw [Int.tmod_eq_emod_of_nonneg (by omega)]; omega
  have hw0 : IntKind.i64.wrap 0 = 0 := by decide
  obtain ⟨c0, f0⟩ := hs 0 (by decide)
  rw [wd_zero, Nat.add_zero] at c0
  rw [Nat.add_zero] at f0
  have hp := shl_one hk
  have hor : bits .andNot .u64 (x : Int) ((2 ^ k : Nat) : Int) = ((lessN x (2 ^ k) : Nat) : Int) := bits_andNot hx hp
  have hsh := shl_cast hk
  generalize hq : (2 ^ k : Nat) = q at hp hor hsh ⊢
  clear hq
  go_enter Tryd.func41, Tryd.ntmps41
  refine wp_region_still_tail 12 (by kernel_rfl) (by kernel_rfl) ?_
  change wpStill _ _ w.drew (fun a' => wpList _ _ _ _ a' w.drew) _ _
  have hw := Same.drewN w 1
  rw [← hw.cell] at c0
  rw [← hw.frozen] at f0
  change Same w w.drew at hw
  change w.drew.cell? _ = _ at c0
  change w.drew.frozen? _ = _ at f0
  generalize w.drew = w5 at *
  simp only [List.take_succ_cons, List.take_zero, List.drop_succ_cons, List.drop_zero]
  repeat still_step
  refine wpStill_nil ?_
  go_wp2
  go_end0
  exact ⟨rfl, hw.set _ _⟩
end Go.Proofs.YtpkebokfbigggaaDoor.Shp
