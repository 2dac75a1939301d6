/-
  Plain facts of how many bits a number below 2^32 has (stage 12): the sums by pairs, by fours, by eights. No program is named here.
-/
import Derived.Test.YtpkebokfbigggaaDoorShpV
namespace Go.Proofs.YtpkebokfbigggaaDoor.Shp

theorem and_split {a b m M : Nat} (ha : a < 256) (hm : m < 256) : (256 * b + a) &&& (256 * M + m) = 256 * (b &&& M) + (a &&& m) := by
  have hm' : a &&& m < 256 := Nat.lt_of_le_of_lt Nat.and_le_left ha
  apply Nat.eq_of_testBit_eq
  intro i
  rw [Nat.testBit_and, show 256 = 2 ^ 8 from rfl, Nat.testBit_two_pow_mul_add _ ha, Nat.testBit_two_pow_mul_add _ hm, Nat.testBit_two_pow_mul_add _ hm']
  split <;> rw [Nat.testBit_and]
def s1 (a : Nat) : Nat := (a / 2 &&& 85) + (a &&& 85)
def s2 (a : Nat) : Nat := (a / 4 &&& 51) + (a &&& 51)
def pc8 (a : Nat) : Nat := ((List.range 8).filter fun i => a.testBit i).length
theorem low1 : ∀ c, c < 2 → ∀ a, a < 256 → (c * 128 + a / 2) &&& 85 = a / 2 &&& 85 := by decide +kernel
theorem low2 : ∀ c, c < 4 → ∀ a, a < 256 → (c * 64 + a / 4) &&& 51 = a / 4 &&& 51 := by decide +kernel
theorem pc8_is : ∀ a, a < 256 → s1 a < 256 ∧ s2 (s1 a) < 256 ∧ s2 (s1 a) % 16 ≤ 4 ∧ s2 (s1 a) / 16 ≤ 4 ∧ s2 (s1 a) / 16 + s2 (s1 a) % 16 = pc8 a ∧ pc8 a ≤ 8 := by decide +kernel
theorem low3 : ∀ c, c < 5 → ∀ h, h < 5 → ∀ l, l < 5 → (c * 16 + h + (h * 16 + l)) &&& 15 = h + l := by decide +kernel
theorem and1 {a b M : Nat} (ha : a < 256) : ((256 * b + a) / 2 &&& (256 * M + 85)) + ((256 * b + a) &&& (256 * M + 85)) = 256 * ((b / 2 &&& M) + (b &&& M)) + s1 a := by
  have e : (256 * b + a) / 2 = 256 * (b / 2) + (b % 2 * 128 + a / 2) := by omega
  rw [e, and_split (by omega) (by decide), and_split ha (by decide), low1 _ (by omega) a ha]
  unfold s1; omega
theorem and2 {a b M : Nat} (ha : a < 256) : ((256 * b + a) / 4 &&& (256 * M + 51)) + ((256 * b + a) &&& (256 * M + 51)) = 256 * ((b / 4 &&& M) + (b &&& M)) + s2 a := by
  have e : (256 * b + a) / 4 = 256 * (b / 4) + (b % 4 * 64 + a / 4) := by omega
  rw [e, and_split (by omega) (by decide), and_split ha (by decide), low2 _ (by omega) a ha]
  unfold s2; omega
theorem and3 {a b M : Nat} (h1 : a % 16 ≤ 4) (h2 : a / 16 ≤ 4) (hb : b % 16 ≤ 4) : ((256 * b + a) / 16 + (256 * b + a)) &&& (256 * M + 15) = 256 * ((b / 16 + b) &&& M) + (a / 16 + a % 16) := by
  have e : (256 * b + a) / 16 + (256 * b + a) = 256 * (b / 16 + b) + (b % 16 * 16 + a / 16 + (a / 16 * 16 + a % 16)) := by omega
  rw [e, and_split (by omega) (by decide), low3 _ (by omega) _ (by omega) _ (by omega)]

def bytes4 (a b c d : Nat) : Nat := 256 * (256 * (256 * d + c) + b) + a
theorem bytes4_of {x : Nat} (h : x < 2 ^ 32) : ∃ a b c d, a < 256 ∧ b < 256 ∧ c < 256 ∧ d < 256 ∧ x = bytes4 a b c d :=
  ⟨x % 256, x / 256 % 256, x / 65536 % 256, x / 16777216, by omega, by omega, by omega, by omega, by unfold bytes4; omega⟩
theorem sum1 {a b c d : Nat} (ha : a < 256) (hb : b < 256) (hc : c < 256) (hd : d < 256) :
    (bytes4 a b c d / 2 &&& 6148914691236517205) + (bytes4 a b c d &&& 6148914691236517205) = bytes4 (s1 a) (s1 b) (s1 c) (s1 d) := by
  have e0 : 6148914691236517205 = 256 * 24019198012642645 + 85 := rfl
  have e1 : 24019198012642645 = 256 * 93824992236885 + 85 := rfl
  have e2 : 93824992236885 = 256 * 366503875925 + 85 := rfl
  have e3 : 366503875925 = 256 * 1431655765 + 85 := rfl
  unfold bytes4
  rw [e0, and1 ha, e1, and1 hb, e2, and1 hc, e3]
  have := and1 (a := d) (b := 0) (M := 1431655765) hd
  simp only [Nat.mul_zero, Nat.zero_add, Nat.zero_div, Nat.zero_and] at this
  rw [this]
theorem sum2 {a b c d : Nat} (ha : a < 256) (hb : b < 256) (hc : c < 256) (hd : d < 256) :
    (bytes4 a b c d / 4 &&& 3689348814741910323) + (bytes4 a b c d &&& 3689348814741910323) = bytes4 (s2 a) (s2 b) (s2 c) (s2 d) := by
  have e0 : 3689348814741910323 = 256 * 14411518807585587 + 51 := rfl
  have e1 : 14411518807585587 = 256 * 56294995342131 + 51 := rfl
  have e2 : 56294995342131 = 256 * 219902325555 + 51 := rfl
  have e3 : 219902325555 = 256 * 858993459 + 51 := rfl
  unfold bytes4
  rw [e0, and2 ha, e1, and2 hb, e2, and2 hc, e3]
  have := and2 (a := d) (b := 0) (M := 858993459) hd
  simp only [Nat.mul_zero, Nat.zero_add, Nat.zero_div, Nat.zero_and] at this
  rw [this]
theorem sum3 {a b c d : Nat} (ha : a % 16 ≤ 4 ∧ a / 16 ≤ 4) (hb : b % 16 ≤ 4 ∧ b / 16 ≤ 4) (hc : c % 16 ≤ 4 ∧ c / 16 ≤ 4) (hd : d % 16 ≤ 4 ∧ d / 16 ≤ 4) :
    (bytes4 a b c d / 16 + bytes4 a b c d) &&& 1085102592571150095 = bytes4 (a / 16 + a % 16) (b / 16 + b % 16) (c / 16 + c % 16) (d / 16 + d % 16) := by
  have e0 : 1085102592571150095 = 256 * 4238682002231055 + 15 := rfl
  have e1 : 4238682002231055 = 256 * 16557351571215 + 15 := rfl
  have e2 : 16557351571215 = 256 * 64677154575 + 15 := rfl
  have e3 : 64677154575 = 256 * 252645135 + 15 := rfl
  unfold bytes4
  rw [e0, and3 ha.1 ha.2 (by omega), e1, and3 hb.1 hb.2 (by omega), e2, and3 hc.1 hc.2 (by omega), e3]
  have := and3 (a := d) (b := 0) (M := 252645135) hd.1 hd.2 (by omega)
  simp only [Nat.mul_zero, Nat.zero_add, Nat.zero_div, Nat.add_zero, Nat.zero_and] at this
  rw [this]
theorem sums {a b c d : Nat} (ha : a ≤ 8) (hb : b ≤ 8) (hc : c ≤ 8) (hd : d ≤ 8) (y4 y5 y6 : Nat) (h4 : y4 = bytes4 a b c d + bytes4 a b c d / 256) (h5 : y5 = y4 + y4 / 65536) (h6 : y6 = y5 + y5 / 4294967296) :
    y6 % 128 = a + b + c + d := by
  unfold bytes4 at h4
  have e1 : (256 * (256 * (256 * d + c) + b) + a) / 256 = 256 * (256 * d + c) + b := by omega
  rw [e1] at h4
  have e2 : y4 / 65536 = 256 * d + (c + d) := by omega
  rw [e2] at h5
  have e3 : y5 / 4294967296 = 0 := by omega
  rw [e3] at h6
  omega
theorem filter_bytes (k a b : Nat) (ha : a < 256) : ((List.range (8 + k)).filter fun i => (256 * b + a).testBit i).length = pc8 a + ((List.range k).filter fun i => b.testBit i).length := by
  rw [List.range_add, List.filter_append, List.length_append, List.filter_map, List.length_map]
  unfold pc8
  congr 1
  · congr 1
    exact List.filter_congr fun i hi => by
      rw [show 256 = 2 ^ 8 from rfl, Nat.testBit_two_pow_mul_add _ ha, if_pos (List.mem_range.1 hi)]
  · congr 1
    exact List.filter_congr fun i hi => by
      simp only [Function.comp]
      rw [show 256 = 2 ^ 8 from rfl, Nat.testBit_two_pow_mul_add _ ha, if_neg (by omega), Nat.add_sub_cancel_left]
theorem bits_bytes {a b c d : Nat} (ha : a < 256) (hb : b < 256) (hc : c < 256) (hd : d < 256) : (bitsL (bytes4 a b c d)).length = pc8 a + pc8 b + pc8 c + pc8 d := by
  unfold bitsL bytes4
  rw [show 64 = 8 + 56 from rfl, filter_bytes 56 _ _ ha, show 56 = 8 + 48 from rfl, filter_bytes 48 _ _ hb, show 48 = 8 + 40 from rfl, filter_bytes 40 _ _ hc]
  have := filter_bytes 32 d 0 hd
  rw [Nat.mul_zero, Nat.zero_add] at this
  rw [show 40 = 8 + 32 from rfl, this]
  have e : ((List.range 32).filter fun i => (0 : Nat).testBit i) = [] := List.filter_eq_nil_iff.2 (by simp)
  rw [e]; simp; omega
/-- How many bits: the sums as math/bits makes them. -/
theorem ones_is {x : Nat} (h : x < 2 ^ 32) : ∃ y1 y2 y3 y4 y5 y6 : Nat, (x / 2 &&& 6148914691236517205) + (x &&& 6148914691236517205) = y1 ∧ (y1 / 4 &&& 3689348814741910323) + (y1 &&& 3689348814741910323) = y2 ∧
    (y2 / 16 + y2) &&& 1085102592571150095 = y3 ∧ y3 + y3 / 256 = y4 ∧ y4 + y4 / 65536 = y5 ∧ y5 + y5 / 4294967296 = y6 ∧ y6 &&& 127 = (bitsL x).length ∧ y1 < 2 ^ 32 ∧ y2 < 2 ^ 32 ∧ y3 < 2 ^ 32 ∧ y4 < 2 ^ 33 ∧ y5 < 2 ^ 34 ∧ y6 < 2 ^ 35 := by
  obtain ⟨a, b, c, d, ha, hb, hc, hd, rfl⟩ := bytes4_of h
  obtain ⟨a1, a2, a3, a4, a5, a6⟩ := pc8_is a ha
  obtain ⟨b1, b2, b3, b4, b5, b6⟩ := pc8_is b hb
  obtain ⟨c1, c2, c3, c4, c5, c6⟩ := pc8_is c hc
  obtain ⟨d1, d2, d3, d4, d5, d6⟩ := pc8_is d hd
  have e3 := sum3 (a := s2 (s1 a)) (b := s2 (s1 b)) (c := s2 (s1 c)) (d := s2 (s1 d)) ⟨a3, a4⟩ ⟨b3, b4⟩ ⟨c3, c4⟩ ⟨d3, d4⟩
  rw [a5, b5, c5, d5] at e3
  refine ⟨_, _, _, _, _, _, sum1 ha hb hc hd, sum2 a1 b1 c1 d1, e3, rfl, rfl, rfl, ?_, ?_, ?_, ?_, ?_, ?_, ?_⟩
  · rw [bits_bytes ha hb hc hd, show (127 : Nat) = 2 ^ 7 - 1 from rfl, Nat.and_two_pow_sub_one_eq_mod]
    exact sums a6 b6 c6 d6 _ _ _ rfl rfl rfl
  all_goals (unfold bytes4; omega)
end Go.Proofs.YtpkebokfbigggaaDoor.Shp
