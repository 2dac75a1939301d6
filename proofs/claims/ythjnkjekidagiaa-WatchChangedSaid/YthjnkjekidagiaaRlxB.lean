/-
  Contracts of the document's answer's sign (layer 2), where there is no error: it returns what a plain function on lists gives; the world is left alone. Condition: a length below 2^62.
-/
import Derived.Test.YthjnkjekidagiaaRlxA
import Derived.Deep.QuietTactic
import Derived.BigQuiet
namespace Go.Proofs.Ythjnkjekidagiaa.Lex
open Go.RowKit

theorem lst_cut (s : ByteArray) (i n : Nat) : lst (s.extract i (i + n)) = ((lst s).drop i).take n := by
  rw [lst_extract, Nat.add_sub_cancel_left]
theorem one_cases {c : UInt8} (h : oneSigns.contains c = true) : c.toNat = 40 ∨ c.toNat = 41 ∨ c.toNat = 123 ∨ c.toNat = 125 ∨ c.toNat = 91 ∨ c.toNat = 93 ∨ c.toNat = 44 ∨ c.toNat = 59 ∨ c.toNat = 58 ∨ c.toNat = 61 ∨ c.toNat = 60 ∨ c.toNat = 62 ∨ c.toNat = 43 ∨ c.toNat = 45 ∨ c.toNat = 42 ∨ c.toNat = 47 ∨ c.toNat = 37 ∨ c.toNat = 38 ∨ c.toNat = 124 ∨ c.toNat = 94 ∨ c.toNat = 126 := by
  have : c ∈ oneSigns := by simpa using h
  simp only [oneSigns, List.mem_cons, List.not_mem_nil, or_false] at this
  rcases this with rfl | rfl | rfl | rfl | rfl | rfl | rfl | rfl | rfl | rfl | rfl | rfl | rfl | rfl | rfl | rfl | rfl | rfl | rfl | rfl | rfl <;> decide

set_option maxHeartbeats 2000000 in
theorem rsign_any (s : ByteArray) (i : Nat) (w : World) (hl : s.size ≤ 4611686018427387904) (hi : i < s.size) (h : 0 < signF ((lst s).drop i)) : Calls Try.prog 48 #[.string s, .int .i64 i] w fun e w' => e = .returned (.string (s.extract i (i + signF ((lst s).drop i)))) ∧ w = w' := by
  have hlen : ((lst s).drop i).length = s.size - i := by rw [List.length_drop, lst_length]
  by_cases h2 : 1 < ((lst s).drop i).length ∧ twoSigns.contains (((lst s).drop i).take 2) = true
  · have hs : signF ((lst s).drop i) = 2 := by unfold signF; rw [if_pos h2]
    rw [hs]; clear hs h
    obtain ⟨h1, h3⟩ := h2
    rw [hlen] at h1
    rw [← lst_cut, ← lst_toList] at h3
    rcases two_cases _ h3 with h | h | h | h | h | h
    all_goals
      clear h3 hlen
      go_enter Try.func48, Try.ntmps48
      go_wp2
      go_ret
      exact ⟨rfl, rfl⟩
  · have e0 : ((lst s).drop i)[0]'(by omega) = s[i] := by rw [List.getElem_drop]; exact lst_get s i hi
    have hs : signF ((lst s).drop i) = if oneSigns.contains s[i] then 1 else 0 := by rw [sign_one h2 (by omega), e0]
    rw [hs] at h ⊢
    have hc : oneSigns.contains s[i] = true := by
      cases hc : oneSigns.contains s[i]
      · rw [hc] at h; simp at h
      · rfl
    rw [hc, if_pos rfl]
    clear h hs e0
    have hcc := one_cases hc
    clear hc
    by_cases h1 : i + 1 < s.size
    · have h3 : twoSigns.contains (((lst s).drop i).take 2) = false := by
        cases e : twoSigns.contains (((lst s).drop i).take 2)
        · rfl
        · exact absurd ⟨by omega, e⟩ h2
      have H := Lib.hid (fun k hk => contains_no (ks := twoSigns) (l := ((lst s).drop i).take 2) h3 k hk)
      clear h2 h3 hlen
      have k0 : ((s.extract i (i + 2)).toList == [61, 61]) = false := by rw [lst_toList, lst_cut]; exact H.out _ (by decide)
      have k1 : ((s.extract i (i + 2)).toList == [33, 61]) = false := by rw [lst_toList, lst_cut]; exact H.out _ (by decide)
      have k2 : ((s.extract i (i + 2)).toList == [60, 61]) = false := by rw [lst_toList, lst_cut]; exact H.out _ (by decide)
      have k3 : ((s.extract i (i + 2)).toList == [62, 61]) = false := by rw [lst_toList, lst_cut]; exact H.out _ (by decide)
      have k4 : ((s.extract i (i + 2)).toList == [60, 60]) = false := by rw [lst_toList, lst_cut]; exact H.out _ (by decide)
      have k5 : ((s.extract i (i + 2)).toList == [62, 62]) = false := by rw [lst_toList, lst_cut]; exact H.out _ (by decide)
      clear H
      rcases hcc with hc | hc | hc | hc | hc | hc | hc | hc | hc | hc | hc | hc | hc | hc | hc | hc | hc | hc | hc | hc | hc
      all_goals
        go_enter Try.func48, Try.ntmps48
        go_wp2
        go_ret
        exact ⟨rfl, rfl⟩
    · clear h2 hlen
      rcases hcc with hc | hc | hc | hc | hc | hc | hc | hc | hc | hc | hc | hc | hc | hc | hc | hc | hc | hc | hc | hc | hc
      all_goals
        go_enter Try.func48, Try.ntmps48
        go_wp2
        go_ret
        exact ⟨rfl, rfl⟩
end Go.Proofs.Ythjnkjekidagiaa.Lex
