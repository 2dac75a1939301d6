/-
  Plain facts of sets as numbers of 64 bits (stage 12): what is in both, in one but not in the other, the least that is in it, how many; the number of a set of nodes. No program is named here.
-/
import Derived.Lib.TrailingZeros
import Derived.Laws.BitsAllLaws
import Derived.Laws.Bits64b
import Derived.Test.YtpkebokfbigggaaDoorShpQ
namespace Go.Proofs.YtpkebokfbigggaaDoor.Shp
open Classical

/-- What is in x, but not in y. -/
def lessN (x y : Nat) : Nat := x &&& (18446744073709551615 - y)
theorem lessN_bit {x y : Nat} (hx : x < 2 ^ 64) (hy : y < 2 ^ 64) (i : Nat) : (lessN x y).testBit i = (x.testBit i && !y.testBit i) := by
  unfold lessN
  have e : 18446744073709551615 - y = 2 ^ 64 - (y + 1) := by omega
  rw [Nat.testBit_and, e, Nat.testBit_two_pow_sub_succ hy]
  by_cases h : i < 64
  · simp [h]
  · have : x.testBit i = false := Nat.testBit_lt_two_pow (Nat.lt_of_lt_of_le hx (Nat.pow_le_pow_right (by decide) (by omega)))
    simp [this]
theorem lessN_lt {x y n : Nat} (hx : x < 2 ^ n) : lessN x y < 2 ^ n := Nat.lt_of_le_of_lt Nat.and_le_left hx
theorem lessN_zero (y : Nat) : lessN 0 y = 0 := by simp [lessN]
theorem bits_andNot {x y : Nat} (hx : x < 18446744073709551616) (hy : y < 18446744073709551616) : bits .andNot .u64 (x : Int) (y : Int) = ((lessN x y : Nat) : Int) := u64_andNot_nat x y hx hy
/-- The first word of a set of 32, or one of the others, which have nothing. -/
def wd (x i : Nat) : Nat := if i = 0 then x else 0
theorem wd_zero (x : Nat) : wd x 0 = x := rfl
theorem wd_pos (x : Nat) {i : Nat} (h : 0 < i) : wd x i = 0 := by unfold wd; rw [if_neg (by omega)]
theorem wd_lt {x i n : Nat} (hx : x < 2 ^ n) : wd x i < 2 ^ n := by unfold wd; split; exact hx; exact Nat.two_pow_pos n
theorem wd_less (x y i : Nat) : lessN (wd x i) (wd y i) = wd (lessN x y) i := by unfold wd; split <;> simp [lessN]
theorem wd_and (x y i : Nat) : (wd x i) &&& (wd y i) = wd (x &&& y) i := by unfold wd; split <;> simp
theorem wd_or (x y i : Nat) : (wd x i) ||| (wd y i) = wd (x ||| y) i := by unfold wd; split <;> simp

/-! The set of the numbers below n that p holds of. -/
def setN : Nat → (Nat → Bool) → Nat
  | 0, _ => 0
  | n + 1, p => setN n p ||| (if p n then 2 ^ n else 0)
theorem setN_bit (n : Nat) (p : Nat → Bool) (i : Nat) : (setN n p).testBit i = (decide (i < n) && p i) := by
  induction n with
  | zero => simp [setN]
  | succ n ih =>
    unfold setN
    rw [Nat.testBit_or, ih]
    by_cases e : i = n
    · subst e
      cases h : p i <;> simp [Nat.testBit_two_pow]
    · have e' : (if p n = true then 2 ^ n else 0).testBit i = false := by
        split
        · rw [Nat.testBit_two_pow]; simpa using fun h => e h.symm
        · simp
      rw [e']
      have : decide (i < n + 1) = decide (i < n) := by rw [decide_eq_decide]; omega
      rw [this]; simp
theorem setN_lt (n : Nat) (p : Nat → Bool) : setN n p < 2 ^ n := by
  apply Nat.lt_pow_two_of_testBit
  intro i hi
  rw [setN_bit]
  simp; omega
theorem setN_lt' {n m : Nat} (h : n ≤ m) (p : Nat → Bool) : setN n p < 2 ^ m := Nat.lt_of_lt_of_le (setN_lt n p) (Nat.pow_le_pow_right (by decide) h)
theorem setN_eq {n x : Nat} {p : Nat → Bool} (h : ∀ i, x.testBit i = (decide (i < n) && p i)) : x = setN n p := Nat.eq_of_testBit_eq fun i => by rw [h, setN_bit]
theorem setN_congr {n : Nat} {p q : Nat → Bool} (h : ∀ i, i < n → p i = q i) : setN n p = setN n q := setN_eq fun i => by
  rw [setN_bit]
  by_cases e : i < n
  · simp [e, h i e]
  · simp [e]
theorem setN_none {n : Nat} {p : Nat → Bool} (h : ∀ i, i < n → p i = false) : setN n p = 0 := by
  have : setN n p = setN n fun _ => false := setN_congr h
  rw [this]
  exact (setN_eq fun i => by simp).symm
theorem or_two_pow_bit (x k i : Nat) : (x ||| 2 ^ k).testBit i = (x.testBit i || decide (k = i)) := by rw [Nat.testBit_or, Nat.testBit_two_pow]

/-! What is in a set, rising. -/
def bitsL (x : Nat) : List Nat := (List.range 64).filter fun i => x.testBit i
theorem mem_bitsL {x i : Nat} (hx : x < 2 ^ 64) : i ∈ bitsL x ↔ x.testBit i = true := by
  unfold bitsL
  rw [List.mem_filter, List.mem_range]
  refine ⟨fun h => h.2, fun h => ⟨?_, h⟩⟩
  apply Classical.byContradiction
  intro hn
  rw [Nat.testBit_lt_two_pow (Nat.lt_of_lt_of_le hx (Nat.pow_le_pow_right (by decide) (by omega)))] at h
  cases h
theorem bitsL_lt {x i n : Nat} (hx : x < 2 ^ n) (h : i ∈ bitsL x) : i < n := by
  have hb := (List.mem_filter.1 h).2
  apply Classical.byContradiction
  intro hn
  rw [Nat.testBit_lt_two_pow (Nat.lt_of_lt_of_le hx (Nat.pow_le_pow_right (by decide) (by omega)))] at hb
  cases hb
theorem bitsL_zero : bitsL 0 = [] := by
  unfold bitsL
  rw [List.filter_eq_nil_iff]
  simp
theorem bitsL_len (x : Nat) : (bitsL x).length ≤ 64 := Nat.le_trans (List.length_filter_le _ _) (by simp)
theorem range_split {k n : Nat} (h : k < n) : List.range n = List.range k ++ k :: (List.range' (k + 1) (n - k - 1)) := by
  have h1 : List.range n = List.range' 0 k ++ List.range' (0 + 1 * k) (n - k) := by
    rw [List.range'_append, List.range_eq_range']; congr 1; omega
  rw [h1, ← List.range_eq_range']
  congr 1
  obtain ⟨m, hm⟩ : ∃ m, n - k = m + 1 := ⟨n - k - 1, by omega⟩
  rw [hm, List.range'_succ]
  congr 2 <;> omega
theorem filter_next {l m : List Nat} {k : Nat} {p q : Nat → Bool} (hl : ∀ i ∈ l, p i = false) (hk : p k = true) (hq : ∀ i, q i = (p i && decide (i ≠ k))) (hm : ∀ i ∈ m, i ≠ k) :
    (l ++ k :: m).filter p = k :: (l ++ k :: m).filter q := by
  have h1 : l.filter p = [] := List.filter_eq_nil_iff.2 fun i hi => by simp [hl i hi]
  have h2 : l.filter q = [] := List.filter_eq_nil_iff.2 fun i hi => by simp [hq, hl i hi]
  have h3 : m.filter p = m.filter q := List.filter_congr fun i hi => by simp [hq, hm i hi]
  have hk' : q k = false := by simp [hq]
  simp [List.filter_append, h1, h2, h3, List.filter_cons, hk, hk']
/-- The least that is in it. -/
theorem low_bits {x : Nat} (h0 : x ≠ 0) (h : x < 2 ^ 64) : Lib.ctz 64 x < 64 ∧ x.testBit (Lib.ctz 64 x) = true ∧ (∀ j, j < Lib.ctz 64 x → x.testBit j = false) ∧
    ∀ j, (x &&& (x - 1)).testBit j = (x.testBit j && decide (j ≠ Lib.ctz 64 x)) := by
  obtain ⟨m, hm, hk⟩ := Lib.ctzFrom_spec 64 x (by omega) h
  have e : Lib.ctz 64 x = Lib.ctzFrom 64 x := by simp [Lib.ctz, h0]
  rw [e]
  generalize Lib.ctzFrom 64 x = k at hm hk
  have hb : ∀ j, x.testBit j = (decide (k ≤ j) && (2 * m + 1).testBit (j - k)) := fun j => by rw [hm, Nat.mul_comm, Nat.testBit_mul_two_pow]
  have hc : ∀ j, k ≤ j → (x - 1).testBit j = (2 * m).testBit (j - k) := fun j hj => by
    have hp := Nat.two_pow_pos k
    have : x - 1 = 2 ^ k * (2 * m) + (2 ^ k - 1) := by rw [hm, Nat.mul_add, Nat.mul_one]; omega
    rw [this, Nat.testBit_two_pow_mul_add _ (by omega)]
    rw [if_neg (by omega)]
  refine ⟨hk, ?_, ?_, ?_⟩
  · rw [hb]; simp
  · intro j hj; rw [hb]; simp; omega
  · intro j
    rw [Nat.testBit_and, hb]
    by_cases h1 : k ≤ j
    · rw [hc j h1]
      by_cases h2 : j = k
      · subst h2; simp
      · obtain ⟨d, hd⟩ : ∃ d, j - k = d + 1 := ⟨j - k - 1, by omega⟩
        rw [hd, Nat.testBit_succ, Nat.testBit_succ]
        have e1 : (2 * m + 1) / 2 = m := by omega
        have e2 : 2 * m / 2 = m := by omega
        rw [e1, e2]
        simp [h1, h2]
    · simp [h1]
theorem bitsL_next {x : Nat} (h0 : x ≠ 0) (h : x < 2 ^ 64) : bitsL x = Lib.ctz 64 x :: bitsL (x &&& (x - 1)) := by
  obtain ⟨h1, h2, h3, h4⟩ := low_bits h0 h
  unfold bitsL
  rw [range_split h1]
  exact filter_next (fun i hi => h3 i (List.mem_range.1 hi)) h2 h4 fun i hi => by
    have := List.mem_range'.1 hi; omega
theorem and_pred_lt {x n : Nat} (h : x < 2 ^ n) : x &&& (x - 1) < 2 ^ n := Nat.lt_of_le_of_lt Nat.and_le_left h
theorem setN_bitsL {n : Nat} (hn : n ≤ 64) (p : Nat → Bool) : bitsL (setN n p) = (List.range n).filter p := by
  have h1 : List.range 64 = List.range n ++ List.range' n (64 - n) := by
    have : List.range 64 = List.range' 0 n ++ List.range' (0 + 1 * n) (64 - n) := by
      rw [List.range'_append, List.range_eq_range']; congr 1; omega
    rw [this, ← List.range_eq_range']; simp
  unfold bitsL
  rw [h1, List.filter_append]
  have h2 : (List.range' n (64 - n)).filter (fun i => (setN n p).testBit i) = [] := List.filter_eq_nil_iff.2 fun i hi => by
    have := List.mem_range'.1 hi
    rw [setN_bit]; simp; omega
  rw [h2, List.append_nil]
  exact List.filter_congr fun i hi => by rw [setN_bit]; simp [List.mem_range.1 hi]
end Go.Proofs.YtpkebokfbigggaaDoor.Shp
