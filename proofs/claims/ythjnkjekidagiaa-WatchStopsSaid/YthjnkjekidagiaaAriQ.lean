/-
  Plain facts on what operators do: when package arith's answer is which; sums, quotients, shifts, bits, for the laws of layer 6 that reckon by themselves. No program is named here.
-/
import Derived.Test.YthjnkjekidagiaaAriP
namespace Go.Proofs.Ythjnkjekidagiaa.Typ
open Go.RowKit

theorem tk_of {k t a b : Int} (h : tkF k t a b = true) : (t = 5 ∨ t = 6) ∧ inF t a = true ∧ (6 ≤ k ∧ k ≤ 17) ∧ (k ≤ 15 → inF t b = true) := by
  unfold tkF at h; simp only [decide_eq_true_eq] at h
  obtain ⟨h1, h2, h3⟩ := h
  refine ⟨h1, h2, by omega, fun h4 => ?_⟩
  rcases h3 with ⟨-, -, h5⟩ | h5 | h5
  · exact h5
  · omega
  · omega
theorem ud_of {k t a b : Int} (h : udF k t a b = 0) : (k = 11 ∨ k = 12 → b ≠ 0) ∧ (k = 16 ∨ k = 17 → 0 ≤ b ∧ b ≤ 31) := by
  unfold udF at h
  by_cases h1 : (k = 11 ∨ k = 12) ∧ b = 0
  · rw [if_pos h1] at h; omega
  · rw [if_neg h1] at h
    by_cases h2 : (k = 16 ∨ k = 17) ∧ (b < 0 ∨ 31 < b)
    · rw [if_pos h2] at h; omega
    · omega
theorem do_no {k t a b : Int} (h : tkF k t a b = false) : doV k t a b = 0 ∧ doU k t a b = 0 := by unfold doV doU; simp [h]
theorem do_ok {k t a b : Int} (h : tkF k t a b = true) (h' : udF k t a b = 0) : doV k t a b = wrapF t (exV k a b) ∧ doU k t a b = 0 := by unfold doV doU; simp [h, h']
theorem do_bad {k t a b : Int} (h : tkF k t a b = true) (h' : udF k t a b ≠ 0) : doV k t a b = 0 ∧ doU k t a b = udF k t a b := by unfold doV doU; simp [h, h']
theorem ret_two {a b c d : Int} (h : a = c) (h' : b = d) : Ending.returned (.tuple #[.int .i64 a, .int .i64 b]) = .returned (.tuple #[.int .i64 c, .int .i64 d]) := by rw [h, h']

theorem tk_low {k t a b : Int} (ht : t = 5 ∨ t = 6) (hk : 6 ≤ k ∧ k ≤ 15) (ha : inF t a = true) (hb : inF t b = true) : tkF k t a b = true := by
  unfold tkF; simp [ht, ha, hb]; omega
theorem tk_sh {k t a b : Int} (ht : t = 5 ∨ t = 6) (hk : k = 16 ∨ k = 17) (ha : inF t a = true) : tkF k t a b = true := by
  unfold tkF; simp [ht, ha]; omega
theorem ud6 {k a b : Int} (h0 : k = 11 ∨ k = 12 → b ≠ 0) (h1 : k = 16 ∨ k = 17 → 0 ≤ b ∧ b ≤ 31) : udF k 6 a b = 0 := by
  unfold udF; rw [if_neg (by omega), if_neg (by omega)]; simp
theorem ud5 {k a b : Int} (h0 : k = 11 ∨ k = 12 → b ≠ 0) (h1 : k = 16 ∨ k = 17 → 0 ≤ b ∧ b ≤ 31) : udF k 5 a b = if ovF k a b = true then 1 else 0 := by
  unfold udF; rw [if_neg (by omega), if_neg (by omega)]; simp
theorem ud_div {k t a : Int} (h : k = 11 ∨ k = 12) : udF k t a 0 = 2 := by unfold udF; simp [h]
theorem ud_sh {k t a b : Int} (h : k = 16 ∨ k = 17) (h' : b < 0 ∨ 31 < b) : udF k t a b = 3 := by
  unfold udF; rw [if_neg (by omega), if_pos ⟨h, h'⟩]
/-- U32, and nothing undefined: wrapped. -/
theorem six_yes {k a b : Int} (h : tkF k 6 a b = true) (h0 : k = 11 ∨ k = 12 → b ≠ 0) (h1 : k = 16 ∨ k = 17 → 0 ≤ b ∧ b ≤ 31) {v : Int} (hv : wrapF 6 (exV k a b) = v) : doV k 6 a b = v ∧ doU k 6 a b = 0 := by
  subst hv; exact do_ok h (ud6 h0 h1)
/-- I32: what has no room. -/
theorem five_no {k a b : Int} (h : tkF k 5 a b = true) (h0 : k = 11 ∨ k = 12 → b ≠ 0) (h1 : k = 16 ∨ k = 17 → 0 ≤ b ∧ b ≤ 31) (ho : ovF k a b = true) : doV k 5 a b = 0 ∧ doU k 5 a b = 1 := by
  have e := ud5 (a := a) h0 h1
  rw [ho] at e
  have := do_bad h (by rw [e]; decide)
  rw [e] at this; exact this
theorem five_yes {k a b : Int} (h : tkF k 5 a b = true) (h0 : k = 11 ∨ k = 12 → b ≠ 0) (h1 : k = 16 ∨ k = 17 → 0 ≤ b ∧ b ≤ 31) (ho : ovF k a b = false) {v : Int} (hv : wrapF 5 (exV k a b) = v) : doV k 5 a b = v ∧ doU k 5 a b = 0 := by
  have e := ud5 (a := a) h0 h1
  rw [ho] at e
  subst hv; exact do_ok h (by rw [e]; decide)
theorem ov_plain {k a b : Int} (h : k ≠ 16 ∧ k ≠ 12) : ovF k a b = !inF 5 (exV k a b) := by unfold ovF; simp [h.1, h.2]
theorem tmod_in {a b : Int} (ha : -2147483648 ≤ a ∧ a ≤ 2147483647) : -2147483648 ≤ a.tmod b ∧ a.tmod b ≤ 2147483647 := by
  have h := tmod_ab (a := a) (b := b) (m := 2147483648) (by omega)
  by_cases h0 : 0 ≤ a
  · have := tmod_bd a b; omega
  · have := Int.tmod_nonneg b (show 0 ≤ -a by omega)
    rw [Int.neg_tmod] at this; omega

/-! Of I32: an operator but the shifts and the rest. -/
theorem low5 {k a b v : Int} (hk : 6 ≤ k ∧ k ≤ 15 ∧ k ≠ 12) (h0 : k = 11 → b ≠ 0) (ha : -2147483648 ≤ a ∧ a ≤ 2147483647) (hb : -2147483648 ≤ b ∧ b ≤ 2147483647) (hv : exV k a b = v) :
    ((-2147483648 ≤ v ∧ v ≤ 2147483647) → doV k 5 a b = v ∧ doU k 5 a b = 0) ∧ (¬ (-2147483648 ≤ v ∧ v ≤ 2147483647) → doV k 5 a b = 0 ∧ doU k 5 a b = 1) := by
  have htk := tk_low (k := k) (.inl rfl) (by omega) (in5' ha) (in5' hb)
  have ho : ovF k a b = !inF 5 v := by rw [ov_plain (by omega), hv]
  constructor
  · intro h; exact five_yes htk (by omega) (by omega) (by rw [ho, in5' h]; rfl) (by rw [hv]; exact wrap5 h)
  · intro h
    have hi : inF 5 v = false := by cases hh : inF 5 v; rfl; exact absurd (in5 hh) h
    exact five_no htk (by omega) (by omega) (by rw [ho, hi]; rfl)
theorem low6 {k a b v : Int} (hk : 6 ≤ k ∧ k ≤ 15) (h0 : k = 11 ∨ k = 12 → b ≠ 0) (ha : 0 ≤ a ∧ a ≤ 4294967295) (hb : 0 ≤ b ∧ b ≤ 4294967295) (hv : wrapF 6 (exV k a b) = v) : doV k 6 a b = v ∧ doU k 6 a b = 0 :=
  six_yes (tk_low (.inr rfl) hk (in6' ha) (in6' hb)) h0 (by omega) hv
theorem div0 {k t a : Int} (hk : k = 11 ∨ k = 12) (ht : t = 5 ∨ t = 6) (ha : inF t a = true) : doU k t a 0 = 2 := by
  have hu := ud_div (t := t) (a := a) hk
  have h0 : inF t 0 = true := by rcases ht with rfl | rfl <;> decide
  rw [(do_bad (tk_low ht (by omega) ha h0) (by rw [hu]; decide)).2, hu]
theorem wrap6' (v : Int) : wrapF 6 v = v % 4294967296 := by unfold wrapF; simp

theorem quo_in {a b : Int} (ha : -2147483648 ≤ a ∧ a ≤ 2147483647) (hb : b ≠ 0) (h : ¬ (a = -2147483648 ∧ b = -1)) : -2147483648 ≤ a.tdiv b ∧ a.tdiv b ≤ 2147483647 := by
  have h1 := tdiv_ab (a := a) (b := b) (m := 2147483648) (by omega)
  by_cases h2 : b = -1
  · subst h2; rw [Int.tdiv_neg, Int.tdiv_one]; omega
  by_cases h3 : b = 1
  · subst h3; rw [Int.tdiv_one]; omega
  have h4 : (a.tdiv b).natAbs = a.natAbs / b.natAbs := Int.natAbs_tdiv ..
  have h5 : a.natAbs / b.natAbs ≤ a.natAbs / 2 := Nat.div_le_div_left (by omega) (by omega)
  omega
theorem quo5 {a b : Int} (ha : -2147483648 ≤ a ∧ a ≤ 2147483647) (hb : -2147483648 ≤ b ∧ b ≤ 2147483647) (h0 : b ≠ 0) (h : ¬ (a = -2147483648 ∧ b = -1)) :
    doV 11 5 a b = a.tdiv b ∧ doU 11 5 a b = 0 :=
  (low5 (by omega) (fun _ => h0) ha hb (by unfold exV; simp)).1 (quo_in ha h0 h)
theorem rem5 {a b : Int} (ha : -2147483648 ≤ a ∧ a ≤ 2147483647) (hb : -2147483648 ≤ b ∧ b ≤ 2147483647) (h0 : b ≠ 0) (h : ¬ (a = -2147483648 ∧ b = -1)) :
    doV 12 5 a b = a.tmod b ∧ doU 12 5 a b = 0 := by
  have ho : ovF 12 a b = !inF 5 (a.tdiv b) := by unfold ovF exV; simp
  exact five_yes (tk_low (.inl rfl) (by omega) (in5' ha) (in5' hb)) (fun _ => h0) (by omega) (by rw [ho, in5' (quo_in ha h0 h)]; rfl) (by unfold exV; simp; exact wrap5 (tmod_in ha))
theorem quo6 {a b : Int} (ha : 0 ≤ a ∧ a ≤ 4294967295) (hb : 0 ≤ b ∧ b ≤ 4294967295) (h0 : b ≠ 0) : doV 11 6 a b = a / b ∧ doU 11 6 a b = 0 := by
  refine low6 (by omega) (fun _ => h0) ha hb ?_
  have : exV 11 a b = a / b := by unfold exV; simp; exact Int.tdiv_eq_ediv_of_nonneg ha.1
  have h1 := Int.ediv_nonneg ha.1 hb.1
  have h2 := Int.ediv_le_self b ha.1
  rw [this]; exact wrap6 (by omega)
theorem rem6 {a b : Int} (ha : 0 ≤ a ∧ a ≤ 4294967295) (hb : 0 ≤ b ∧ b ≤ 4294967295) (h0 : b ≠ 0) : doV 12 6 a b = a % b ∧ doU 12 6 a b = 0 := by
  refine low6 (by omega) (fun _ => h0) ha hb ?_
  have : exV 12 a b = a % b := by unfold exV; simp; exact Int.tmod_eq_emod_of_nonneg ha.1
  have h1 := Int.emod_nonneg a h0
  have h2 := Int.emod_lt_of_pos a (b := b) (by omega)
  rw [this]; exact wrap6 (by omega)
theorem rest (a b : Int) (h0 : b ≠ 0) : a.tdiv b * b + a.tmod b = a ∧ (0 < b → -b < a.tmod b ∧ a.tmod b < b) ∧ (b < 0 → b < a.tmod b ∧ a.tmod b < -b) ∧ (a.tmod b = 0 ∨ (a.tmod b < 0 ∧ a < 0) ∨ (0 < a.tmod b ∧ 0 < a)) := by
  have h1 := Int.tdiv_mul_add_tmod a b
  have h2 : (a.tmod b).natAbs = a.natAbs % b.natAbs := Int.natAbs_tmod ..
  have h3 := Nat.mod_lt a.natAbs (show b.natAbs > 0 by omega)
  refine ⟨h1, by omega, by omega, ?_⟩
  by_cases h4 : 0 ≤ a
  · have := Int.tmod_nonneg b h4
    have := tmod_bd a b
    omega
  · have := Int.tmod_nonneg b (show 0 ≤ -a by omega)
    rw [Int.neg_tmod] at this; omega

/-! Shifts. -/
theorem sh_out {k t a b : Int} (hk : k = 16 ∨ k = 17) (ht : t = 5 ∨ t = 6) (ha : inF t a = true) (hb : b < 0 ∨ 31 < b) : doU k t a b = 3 := by
  have hu := ud_sh (t := t) (a := a) hk hb
  rw [(do_bad (tk_sh ht hk ha) (by rw [hu]; decide)).2, hu]
theorem shl5 {a b : Int} (ha : -2147483648 ≤ a ∧ a ≤ 2147483647) (hb : 0 ≤ b ∧ b ≤ 31) :
    ((0 ≤ a ∧ a * 2 ^ b.toNat < 2147483648) → doV 16 5 a b = a * 2 ^ b.toNat ∧ doU 16 5 a b = 0) ∧ (¬ (0 ≤ a ∧ a * 2 ^ b.toNat < 2147483648) → doV 16 5 a b = 0 ∧ doU 16 5 a b = 1) := by
  have htk := tk_sh (b := b) (.inl rfl) (.inl rfl) (in5' ha)
  have ho : ovF 16 a b = (decide (a < 0) || !inF 5 (a * 2 ^ b.toNat)) := by unfold ovF exV; simp
  obtain ⟨p1, p2⟩ := pow_31 (n := b.toNat) (by omega)
  have hx : exV 16 a b = a * 2 ^ b.toNat := by unfold exV; simp
  generalize (2 : Int) ^ b.toNat = p at *
  constructor
  · intro h
    have h1 := Int.mul_nonneg h.1 (show 0 ≤ p by omega)
    have hi := in5' (v := a * p) (by omega)
    exact five_yes htk (by omega) (by omega) (by rw [ho, hi]; simp; omega) (by rw [hx]; exact wrap5 (in5 hi))
  · intro h
    refine five_no htk (by omega) (by omega) ?_
    rw [ho]
    by_cases hn : a < 0
    · simp [hn]
    · have hi : inF 5 (a * p) = false := by
        cases hh : inF 5 (a * p)
        · rfl
        · have := in5 hh; exact absurd ⟨by omega, by omega⟩ h
      rw [hi]; simp
theorem shr5 {a b : Int} (ha : -2147483648 ≤ a ∧ a ≤ 2147483647) (hb : 0 ≤ b ∧ b ≤ 31) : doV 17 5 a b = a / 2 ^ b.toNat ∧ doU 17 5 a b = 0 := by
  have hr := shr_bd (m := -2147483648) (n' := 2147483647) (n := b.toNat) (by omega) (by omega) ha (by omega)
  have hx : exV 17 a b = a / 2 ^ b.toNat := by unfold exV; simp
  exact five_yes (tk_sh (.inl rfl) (.inr rfl) (in5' ha)) (by omega) (by omega) (by rw [ov_plain (by omega), hx, in5' hr]; rfl) (by rw [hx]; exact wrap5 hr)
theorem shl6 {a b : Int} (ha : 0 ≤ a ∧ a ≤ 4294967295) (hb : 0 ≤ b ∧ b ≤ 31) : doV 16 6 a b = a * 2 ^ b.toNat % 4294967296 ∧ doU 16 6 a b = 0 := by
  have hx : exV 16 a b = a * 2 ^ b.toNat := by unfold exV; simp
  exact six_yes (tk_sh (.inr rfl) (.inl rfl) (in6' ha)) (by omega) (by omega) (by rw [hx]; exact wrap6' _)
theorem shr6 {a b : Int} (ha : 0 ≤ a ∧ a ≤ 4294967295) (hb : 0 ≤ b ∧ b ≤ 31) : doV 17 6 a b = a / 2 ^ b.toNat ∧ doU 17 6 a b = 0 := by
  have hr := shr_bd (m := 0) (n' := 4294967295) (n := b.toNat) (by omega) (by omega) ha (by omega)
  have hx : exV 17 a b = a / 2 ^ b.toNat := by unfold exV; simp
  exact six_yes (tk_sh (.inr rfl) (.inr rfl) (in6' ha)) (by omega) (by omega) (by rw [hx]; exact wrap6 hr)

/-! Bits. -/
theorem bit5 {k a b : Int} {op : BinOp} (h : (k = 13 ∧ op = .and) ∨ (k = 14 ∧ op = .or) ∨ (k = 15 ∧ op = .xor)) (ha : -2147483648 ≤ a ∧ a ≤ 2147483647) (hb : -2147483648 ≤ b ∧ b ≤ 2147483647) :
    doV k 5 a b = bits op .i32 a b ∧ doU k 5 a b = 0 := by
  have hx : exV k a b = bits op .i32 a b := by
    rw [← bits_32 op (by rcases h with ⟨-, rfl⟩ | ⟨-, rfl⟩ | ⟨-, rfl⟩ <;> simp) ha hb]
    rcases h with ⟨rfl, rfl⟩ | ⟨rfl, rfl⟩ | ⟨rfl, rfl⟩ <;> (unfold exV; simp)
  exact (low5 (by omega) (by omega) ha hb hx).1 (bits_bd op a b)
theorem bit6 {k a b : Int} {op : BinOp} (h : (k = 13 ∧ op = .and) ∨ (k = 14 ∧ op = .or) ∨ (k = 15 ∧ op = .xor)) (ha : 0 ≤ a ∧ a ≤ 4294967295) (hb : 0 ≤ b ∧ b ≤ 4294967295) :
    doV k 6 a b = bits op .u32 a b ∧ doU k 6 a b = 0 := by
  have hx : exV k a b = bits op .u32 a b := by
    rw [← bits_u op (by rcases h with ⟨-, rfl⟩ | ⟨-, rfl⟩ | ⟨-, rfl⟩ <;> simp) ha hb]
    rcases h with ⟨rfl, rfl⟩ | ⟨rfl, rfl⟩ | ⟨rfl, rfl⟩ <;> (unfold exV; simp)
  exact low6 (by omega) (by omega) ha hb (by rw [hx]; exact wrap6 (bits_ubd op a b))
theorem com_32 (a : Int) (ha : -2147483648 ≤ a ∧ a ≤ 2147483647) : bits .xor .i32 (-1) a = -1 - a := by
  rw [← bits_32 .xor (by simp) (by omega) ha]; exact com_64' a (by omega)
theorem com_u32 (a : Int) (ha : 0 ≤ a ∧ a ≤ 4294967295) : bits .xor .u32 4294967295 a = 4294967295 - a := by
  rw [bits_u32]
  show ((BitVec.ofInt 32 4294967295 ^^^ BitVec.ofInt 32 a).toNat : Int) = _
  have e : BitVec.ofInt 32 4294967295 = BitVec.allOnes 32 := by decide
  rw [e, BitVec.allOnes_xor, BitVec.toNat_not, BitVec.toNat_ofInt]
  simp; omega
end Go.Proofs.Ythjnkjekidagiaa.Typ
