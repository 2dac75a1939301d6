/-
  Plain facts on integers for layer 6 (what operators do): bits of numbers of 32 and of 64 bits; what the functions of package arith compute, as functions on integers. No program is named here.
-/
import Derived.Test.YthjnkjekidagiaaPlain
import Derived.WalkKit
import Derived.IntWalk
namespace Go.Proofs.Ythjnkjekidagiaa.Typ
open Go.RowKit

theorem i64_toInt (x : BitVec 64) : IntKind.i64.wrap ((x.toNat : Nat) : Int) = x.toInt := by
  rw [IntKind.wrap_i64, BitVec.toInt_eq_toNat_cond]; have := x.isLt; split <;> omega
theorem i32_toInt (x : BitVec 32) : IntKind.i32.wrap ((x.toNat : Nat) : Int) = x.toInt := by
  rw [IntKind.wrap_i32, BitVec.toInt_eq_toNat_cond]; have := x.isLt; split <;> omega
theorem sx {a : Int} (h : -2147483648 ≤ a ∧ a ≤ 2147483647) : BitVec.ofInt 64 a = (BitVec.ofInt 32 a).signExtend 64 := by
  apply BitVec.eq_of_toInt_eq
  rw [BitVec.toInt_signExtend_of_le (by omega), BitVec.toInt_ofInt, BitVec.toInt_ofInt, Int.bmod_def, Int.bmod_def]
  simp; omega
theorem zx {a : Int} (h : 0 ≤ a ∧ a ≤ 4294967295) : BitVec.ofInt 64 a = (BitVec.ofInt 32 a).setWidth 64 := by
  apply BitVec.eq_of_toNat_eq
  rw [BitVec.toNat_setWidth, BitVec.toNat_ofInt, BitVec.toNat_ofInt]; omega
theorem bd32 (x : BitVec 32) : -2147483648 ≤ x.toInt ∧ x.toInt ≤ 2147483647 := by
  rw [BitVec.toInt_eq_toNat_cond]; have := x.isLt; split <;> omega
def bop {n : Nat} (op : BinOp) (a b : BitVec n) : BitVec n := match op with | .and => a &&& b | .or => a ||| b | .xor => a ^^^ b | _ => a &&& ~~~b
theorem bits_i32 (op : BinOp) (a b : Int) : bits op .i32 a b = (bop op (BitVec.ofInt 32 a) (BitVec.ofInt 32 b)).toInt := i32_toInt _
theorem bits_i64 (op : BinOp) (a b : Int) : bits op .i64 a b = (bop op (BitVec.ofInt 64 a) (BitVec.ofInt 64 b)).toInt := i64_toInt _
theorem u32_nat (x : BitVec 32) : IntKind.u32.wrap ((x.toNat : Nat) : Int) = x.toNat := by
  rw [IntKind.wrap_u32]; have := x.isLt; omega
theorem bits_u32 (op : BinOp) (a b : Int) : bits op .u32 a b = ((bop op (BitVec.ofInt 32 a) (BitVec.ofInt 32 b)).toNat : Int) := by
  exact u32_nat _
/-- Of numbers of 32 bits with a sign the bits of 64 do what those of 32 do. -/
theorem bits_32 (op : BinOp) (ho : op = .and ∨ op = .or ∨ op = .xor) {a b : Int} (ha : -2147483648 ≤ a ∧ a ≤ 2147483647) (hb : -2147483648 ≤ b ∧ b ≤ 2147483647) : bits op .i64 a b = bits op .i32 a b := by
  rw [bits_i32, bits_i64, sx ha, sx hb]
  have e : ∀ x y : BitVec 32, bop op (x.signExtend 64) (y.signExtend 64) = (bop op x y).signExtend 64 := by
    intro x y
    rcases ho with rfl | rfl | rfl
    · exact (BitVec.signExtend_and ..).symm
    · exact (BitVec.signExtend_or ..).symm
    · exact (BitVec.signExtend_xor ..).symm
  rw [e, BitVec.toInt_signExtend_of_le (by omega)]
theorem bits_u (op : BinOp) (ho : op = .and ∨ op = .or ∨ op = .xor) {a b : Int} (ha : 0 ≤ a ∧ a ≤ 4294967295) (hb : 0 ≤ b ∧ b ≤ 4294967295) : bits op .i64 a b = bits op .u32 a b := by
  rw [bits_u32, bits_i64, zx ha, zx hb]
  have e : ∀ x y : BitVec 32, bop op (x.setWidth 64) (y.setWidth 64) = (bop op x y).setWidth 64 := by
    intro x y
    rcases ho with rfl | rfl | rfl
    · exact (BitVec.setWidth_and ..).symm
    · exact (BitVec.setWidth_or ..).symm
    · exact (BitVec.setWidth_xor ..).symm
  rw [e, BitVec.toInt_eq_toNat_cond, BitVec.toNat_setWidth]
  have := (bop op (BitVec.ofInt 32 a) (BitVec.ofInt 32 b)).isLt
  rw [Nat.mod_eq_of_lt (by omega)]; rw [if_pos (by omega)]
theorem bits_bd (op : BinOp) (a b : Int) : -2147483648 ≤ bits op .i32 a b ∧ bits op .i32 a b ≤ 2147483647 := by rw [bits_i32]; exact bd32 _
theorem bits_ubd (op : BinOp) (a b : Int) : 0 ≤ bits op .u32 a b ∧ bits op .u32 a b ≤ 4294967295 := by
  rw [bits_u32]; have := (bop op (BitVec.ofInt 32 a) (BitVec.ofInt 32 b)).isLt; omega
/-- All bits turned over. -/
theorem com_64 (a : Int) (ha : -9223372036854775808 ≤ a ∧ a ≤ 9223372036854775807) : bits .xor .i64 a (-1) = -1 - a := by
  rw [bits_i64]
  show (BitVec.ofInt 64 a ^^^ BitVec.ofInt 64 (-1)).toInt = _
  have e : BitVec.ofInt 64 (-1) = BitVec.allOnes 64 := by decide
  rw [e, BitVec.xor_allOnes, BitVec.toInt_not, BitVec.toNat_ofInt, Int.bmod_def]
  simp; omega
theorem com_64' (a : Int) (ha : -9223372036854775808 ≤ a ∧ a ≤ 9223372036854775807) : bits .xor .i64 (-1) a = -1 - a := by
  rw [← com_64 a ha, bits_i64, bits_i64]; show (BitVec.ofInt 64 (-1) ^^^ BitVec.ofInt 64 a).toInt = (BitVec.ofInt 64 a ^^^ BitVec.ofInt 64 (-1)).toInt; rw [BitVec.xor_comm]

/-! What the functions of package arith compute. -/
def exV (k a b : Int) : Int :=
  if k = 6 then -a else if k = 7 then -1 - a else if k = 8 then a + b else if k = 9 then a - b else if k = 10 then wrap64 (a * b) else if k = 11 then a.tdiv b
  else if k = 12 then a.tmod b else if k = 13 then bits .and .i64 a b else if k = 14 then bits .or .i64 a b else if k = 15 then bits .xor .i64 a b
  else if k = 16 then a * 2 ^ b.toNat else if k = 17 then a / 2 ^ b.toNat else 0
def ovF (k a b : Int) : Bool := decide (k = 16 ∧ a < 0) || !inF 5 (exV (if k = 12 then 11 else k) a b)
def udF (k t a b : Int) : Int := if (k = 11 ∨ k = 12) ∧ b = 0 then 2 else if (k = 16 ∨ k = 17) ∧ (b < 0 ∨ 31 < b) then 3 else if t = 5 ∧ ovF k a b = true then 1 else 0
def tkF (k t a b : Int) : Bool := decide ((t = 5 ∨ t = 6) ∧ inF t a = true ∧ ((6 ≤ k ∧ k ≤ 15 ∧ inF t b = true) ∨ k = 16 ∨ k = 17))
def doV (k t a b : Int) : Int := if tkF k t a b = true ∧ udF k t a b = 0 then wrapF t (exV k a b) else 0
def doU (k t a b : Int) : Int := if tkF k t a b = true then udF k t a b else 0
def relF (r a b : Int) : Bool := if r = 1 then a == b else if r = 2 then a != b else if r = 3 then decide (a < b) else if r = 4 then decide (a ≤ b) else if r = 5 then decide (b < a) else if r = 6 then decide (b ≤ a) else false

def NoK (k : Int) : Prop := (k == 6) = false ∧ (k == 7) = false ∧ (k == 8) = false ∧ (k == 9) = false ∧ (k == 10) = false ∧ (k == 11) = false ∧ (k == 12) = false ∧ (k == 13) = false ∧ (k == 14) = false ∧ (k == 15) = false ∧ (k == 16) = false ∧ (k == 17) = false
theorem kinds (k : Int) : k = 6 ∨ k = 7 ∨ k = 8 ∨ k = 9 ∨ k = 10 ∨ k = 11 ∨ k = 12 ∨ k = 13 ∨ k = 14 ∨ k = 15 ∨ k = 16 ∨ k = 17 ∨ (NoK k ∧ (k < 6 ∨ 17 < k)) := by
  unfold NoK; simp only [beq_eq_false_iff_ne]; omega

theorem in5 {v : Int} (h : inF 5 v = true) : -2147483648 ≤ v ∧ v ≤ 2147483647 := by unfold inF minF maxF at h; simp at h; omega
theorem in6 {v : Int} (h : inF 6 v = true) : 0 ≤ v ∧ v ≤ 4294967295 := by unfold inF minF maxF at h; simp at h; omega
theorem in5' {v : Int} (h : -2147483648 ≤ v ∧ v ≤ 2147483647) : inF 5 v = true := by unfold inF minF maxF; simp; omega
theorem in6' {v : Int} (h : 0 ≤ v ∧ v ≤ 4294967295) : inF 6 v = true := by unfold inF minF maxF; simp; omega
theorem in_out5 {v : Int} (h : inF 5 v = false) : v < -2147483648 ∨ 2147483647 < v := by unfold inF minF maxF at h; simp at h; omega
theorem wide {t v : Int} (ht : t = 5 ∨ t = 6) (h : inF t v = true) : -2147483648 ≤ v ∧ v ≤ 4294967295 := by
  rcases ht with rfl | rfl
  · have := in5 h; omega
  · have := in6 h; omega
theorem wrap5 {v : Int} (h : -2147483648 ≤ v ∧ v ≤ 2147483647) : wrapF 5 v = v := by unfold wrapF; simp; omega
theorem wrap6 {v : Int} (h : 0 ≤ v ∧ v ≤ 4294967295) : wrapF 6 v = v := by unfold wrapF; simp; omega
theorem wrap_in5 (v : Int) : inF 5 (wrapF 5 v) = true := in5' (by unfold wrapF; simp; omega)
theorem wrap_in6 (v : Int) : inF 6 (wrapF 6 v) = true := in6' (by unfold wrapF; simp; omega)
theorem mod_64_32 (v : Int) : wrapF 6 (wrap64 v) = v % 4294967296 := by unfold wrapF wrap64; simp; omega

theorem mul_bd {a b m n : Int} (ha : -m ≤ a ∧ a ≤ m) (hb : -n ≤ b ∧ b ≤ n) : -(m * n) ≤ a * b ∧ a * b ≤ m * n := by
  have hm : 0 ≤ m := by omega
  have hn : 0 ≤ n := by omega
  have h1 := Int.mul_nonneg (show 0 ≤ m - a by omega) (show 0 ≤ n + b by omega)
  have h2 := Int.mul_nonneg (show 0 ≤ m + a by omega) (show 0 ≤ n - b by omega)
  have h3 := Int.mul_nonneg (show 0 ≤ m - a by omega) (show 0 ≤ n - b by omega)
  have h4 := Int.mul_nonneg (show 0 ≤ m + a by omega) (show 0 ≤ n + b by omega)
  simp only [Int.sub_mul, Int.add_mul, Int.mul_sub, Int.mul_add] at h1 h2 h3 h4
  omega
theorem mul_32 {a b : Int} (ha : -2147483648 ≤ a ∧ a ≤ 2147483647) (hb : -2147483648 ≤ b ∧ b ≤ 2147483647) : -4611686018427387904 ≤ a * b ∧ a * b ≤ 4611686018427387904 := by
  have := mul_bd (a := a) (b := b) (m := 2147483648) (n := 2147483648) (by omega) (by omega); omega
theorem wrap64_in {v : Int} (h : -9223372036854775808 ≤ v ∧ v ≤ 9223372036854775807) : wrap64 v = v := by unfold wrap64; omega
theorem pow_31 {n : Nat} (h : n ≤ 31) : 1 ≤ (2 : Int) ^ n ∧ (2 : Int) ^ n ≤ 2147483648 := by
  have h1 : 2 ^ n ≤ 2 ^ 31 := Nat.pow_le_pow_right (by omega) h
  have h2 : 0 < 2 ^ n := Nat.two_pow_pos n
  have e : (2 : Int) ^ n = ((2 ^ n : Nat) : Int) := by simp
  rw [e]; omega
theorem shl_bd {a : Int} {n : Nat} (ha : -2147483648 ≤ a ∧ a ≤ 4294967295) (h : n ≤ 31) : -4611686018427387904 ≤ a * 2 ^ n ∧ a * 2 ^ n ≤ 9223372034707292160 := by
  obtain ⟨h1, h2⟩ := pow_31 h
  generalize (2 : Int) ^ n = p at h1 h2
  have h3 := Int.mul_nonneg (show 0 ≤ a + 2147483648 by omega) (show 0 ≤ p by omega)
  have h4 := Int.mul_nonneg (show 0 ≤ 4294967295 - a by omega) (show 0 ≤ p by omega)
  simp only [Int.sub_mul, Int.add_mul] at h3 h4
  omega
theorem shr_bd {a m n' : Int} {n : Nat} (hm : m ≤ 0) (hn : 0 ≤ n') (ha : m ≤ a ∧ a ≤ n') (h : n ≤ 31) : m ≤ a / 2 ^ n ∧ a / 2 ^ n ≤ n' := by
  obtain ⟨h1, -⟩ := pow_31 h
  generalize (2 : Int) ^ n = p at h1
  constructor
  · apply Int.le_ediv_of_mul_le (by omega)
    have h3 := Int.mul_nonneg (show 0 ≤ -m by omega) (show 0 ≤ p - 1 by omega)
    simp only [Int.mul_sub, Int.neg_mul] at h3; omega
  · apply Int.ediv_le_of_le_mul (by omega)
    have h3 := Int.mul_nonneg (show 0 ≤ n' by omega) (show 0 ≤ p - 1 by omega)
    simp only [Int.mul_sub] at h3; omega
theorem tdiv_bd (a b : Int) : (a.tdiv b).natAbs ≤ a.natAbs := by
  rw [Int.natAbs_tdiv]; exact Nat.div_le_self _ _
theorem tdiv_ab {a b m : Int} (ha : -m ≤ a ∧ a ≤ m) : -m ≤ a.tdiv b ∧ a.tdiv b ≤ m := by
  have := tdiv_bd a b; omega
theorem tmod_bd (a b : Int) : (a.tmod b).natAbs ≤ a.natAbs := by
  rw [Int.natAbs_tmod]; exact Nat.mod_le _ _
theorem tmod_ab {a b m : Int} (ha : -m ≤ a ∧ a ≤ m) : -m ≤ a.tmod b ∧ a.tmod b ≤ m := by
  have := tmod_bd a b; omega
end Go.Proofs.Ythjnkjekidagiaa.Typ
