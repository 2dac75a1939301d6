/-
  Plain facts on integers for layer 1 (types of integers): what the functions of package typ compute, as functions on integers; masks; no program is named here.
-/
import Derived.WalkKit
import Derived.IntWalk
namespace Go.Proofs.Ythjnkjekidagiaa.Typ
open Go.RowKit

def bitsF (t : Int) : Int := if t = 1 ∨ t = 2 then 8 else if t = 3 ∨ t = 4 then 16 else if t = 5 ∨ t = 6 then 32 else 0
def minF (t : Int) : Int := if t = 1 then -128 else if t = 3 then -32768 else if t = 5 then -2147483648 else 0
def maxF (t : Int) : Int := if t = 1 then 127 else if t = 2 then 255 else if t = 3 then 32767 else if t = 4 then 65535 else if t = 5 then 2147483647 else if t = 6 then 4294967295 else 0
def isT (t : Int) : Bool := decide (1 ≤ t ∧ t ≤ 6)
def inF (t v : Int) : Bool := decide (1 ≤ t ∧ t ≤ 6 ∧ minF t ≤ v ∧ v ≤ maxF t)
def wrapF (t v : Int) : Int := if t = 1 then (v + 128) % 256 - 128 else if t = 2 then v % 256 else if t = 3 then (v + 32768) % 65536 - 32768 else if t = 4 then v % 65536 else if t = 5 then (v + 2147483648) % 4294967296 - 2147483648 else if t = 6 then v % 4294967296 else 0
def upF (t : Int) : Int := if t = 6 then 6 else if 1 ≤ t ∧ t ≤ 5 then 5 else 0
def joinF (a b : Int) : Int := if isT a && isT b then (if a = 6 ∨ b = 6 then 6 else 5) else 0
def nameF (t : Int) : List UInt8 := if t = 1 then [105, 56] else if t = 2 then [117, 56] else if t = 3 then [105, 49, 54] else if t = 4 then [117, 49, 54] else if t = 5 then [105, 51, 50] else if t = 6 then [117, 51, 50] else []
def readF (s : List UInt8) : Int := if s = [105, 56] then 1 else if s = [117, 56] then 2 else if s = [105, 49, 54] then 3 else if s = [117, 49, 54] then 4 else if s = [105, 51, 50] then 5 else if s = [117, 51, 50] then 6 else 0

def NoT (t : Int) : Prop := (t == 1) = false ∧ (t == 2) = false ∧ (t == 3) = false ∧ (t == 4) = false ∧ (t == 5) = false ∧ (t == 6) = false

theorem eight (t : Int) : t = 1 ∨ t = 2 ∨ t = 3 ∨ t = 4 ∨ t = 5 ∨ t = 6 ∨ (NoT t ∧ t < 1) ∨ (NoT t ∧ 6 < t) := by
  unfold NoT; simp only [beq_eq_false_iff_ne]; omega

theorem none_of {t : Int} (h : NoT t) :
    bitsF t = 0 ∧ minF t = 0 ∧ maxF t = 0 ∧ isT t = false ∧ upF t = 0 ∧ nameF t = [] ∧ (∀ v, inF t v = false) ∧ (∀ v, wrapF t v = 0) := by
  obtain ⟨h1, h2, h3, h4, h5, h6⟩ := h
  simp only [beq_eq_false_iff_ne] at h1 h2 h3 h4 h5 h6
  unfold bitsF minF maxF isT upF nameF inF wrapF
  refine ⟨?_, ?_, ?_, ?_, ?_, ?_, ?_, ?_⟩ <;> simp [h1, h2, h3, h4, h5, h6] <;> omega

theorem join_none {a b : Int} (h : isT a = false ∨ isT b = false) : joinF a b = 0 := by
  unfold joinF; rcases h with h | h <;> simp [h]

theorem and_mask (v : Int) (k : Nat) (hk : k ≤ 32) : bits .and .i64 v (((2 ^ k - 1 : Nat)) : Int) = v % ((2 ^ k : Nat) : Int) := by
  have hp : 2 ^ k ≤ 2 ^ 32 := Nat.pow_le_pow_right (by omega) hk
  have hpos : 0 < 2 ^ k := Nat.two_pow_pos k
  have hd : (2 ^ k : Nat) ∣ 2 ^ 64 := Nat.pow_dvd_pow 2 (by omega)
  unfold bits
  show IntKind.i64.wrap (((BitVec.ofInt 64 v &&& BitVec.ofInt 64 ((2 ^ k - 1 : Nat) : Int)).toNat : Nat) : Int) = _
  rw [BitVec.toNat_and, BitVec.toNat_ofInt, BitVec.toNat_ofInt]
  have e2 : (((2 ^ k - 1 : Nat) : Int) % ((2 ^ 64 : Nat) : Int)).toNat = 2 ^ k - 1 := by
    rw [Int.emod_eq_of_lt (by omega) (by omega)]; omega
  rw [e2, Nat.and_two_pow_sub_one_eq_mod]
  have e3 : (((v % ((2 ^ 64 : Nat) : Int)).toNat % 2 ^ k : Nat) : Int) = v % ((2 ^ k : Nat) : Int) := by
    have h0 : 0 ≤ v % ((2 ^ 64 : Nat) : Int) := Int.emod_nonneg _ (by omega)
    rw [Int.natCast_emod, Int.toNat_of_nonneg h0]
    exact Int.emod_emod_of_dvd v (Int.natCast_dvd_natCast.2 hd)
  rw [e3]
  have h1 : 0 ≤ v % ((2 ^ k : Nat) : Int) := Int.emod_nonneg _ (by omega)
  have h2 : v % ((2 ^ k : Nat) : Int) < ((2 ^ k : Nat) : Int) := Int.emod_lt_of_pos _ (by omega)
  exact IntWalk.i64_in _ (by omega)

theorem and_0 (v : Int) : bits .and .i64 v 0 = 0 := by have h := and_mask v 0 (by omega); simpa [Int.emod_one] using h
theorem and_8 (v : Int) : bits .and .i64 v 255 = v % 256 := and_mask v 8 (by omega)
theorem and_16 (v : Int) : bits .and .i64 v 65535 = v % 65536 := and_mask v 16 (by omega)
theorem and_32 (v : Int) : bits .and .i64 v 4294967295 = v % 4294967296 := and_mask v 32 (by omega)

theorem conv_1 (v : Int) : wrap64 (IntKind.i8.wrap v) = wrapF 1 v := by
  unfold wrapF wrap64 IntKind.wrap; simp [IntKind.bits, IntKind.signed]; split <;> omega
theorem conv_2 (v : Int) : v % 256 = wrapF 2 v := by unfold wrapF; simp
theorem conv_3 (v : Int) : wrap64 (IntKind.i16.wrap v) = wrapF 3 v := by
  unfold wrapF wrap64 IntKind.wrap; simp [IntKind.bits, IntKind.signed]; split <;> omega
theorem conv_4 (v : Int) : wrap64 (IntKind.u16.wrap v) = wrapF 4 v := by
  unfold wrapF wrap64 IntKind.wrap; simp [IntKind.bits, IntKind.signed]; omega
theorem conv_5 (v : Int) : wrap64 (wrap32 v) = wrapF 5 v := by
  unfold wrapF wrap64 wrap32; simp; omega
theorem conv_6 (v : Int) : v % 4294967296 = wrapF 6 v := by unfold wrapF; simp
theorem read_name (k : Nat) (h1 : 1 ≤ k) (h6 : k ≤ 6) : readF (nameF k) = k := by
  rcases (show k = 1 ∨ k = 2 ∨ k = 3 ∨ k = 4 ∨ k = 5 ∨ k = 6 by omega) with rfl | rfl | rfl | rfl | rfl | rfl <;> decide
theorem read_none (s : List UInt8) (h : ∀ j : Nat, 1 ≤ j → j < 7 → nameF j ≠ s) : readF s = 0 := by
  have a1 : ¬ s = [105, 56] := fun e => h 1 (by omega) (by omega) (e ▸ by decide)
  have a2 : ¬ s = [117, 56] := fun e => h 2 (by omega) (by omega) (e ▸ by decide)
  have a3 : ¬ s = [105, 49, 54] := fun e => h 3 (by omega) (by omega) (e ▸ by decide)
  have a4 : ¬ s = [117, 49, 54] := fun e => h 4 (by omega) (by omega) (e ▸ by decide)
  have a5 : ¬ s = [105, 51, 50] := fun e => h 5 (by omega) (by omega) (e ▸ by decide)
  have a6 : ¬ s = [117, 51, 50] := fun e => h 6 (by omega) (by omega) (e ▸ by decide)
  unfold readF; rw [if_neg a1, if_neg a2, if_neg a3, if_neg a4, if_neg a5, if_neg a6]
end Go.Proofs.Ythjnkjekidagiaa.Typ
