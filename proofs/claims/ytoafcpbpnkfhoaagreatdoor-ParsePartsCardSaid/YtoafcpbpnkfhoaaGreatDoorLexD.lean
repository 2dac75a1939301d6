/-
  Contracts of strings.CutSuffix, strings.HasPrefix (at the text 'u'), strings.IndexByte, and of package lex's sign and isKey. The only condition: a length below 2^62.
-/
import Derived.Test.YtoafcpbpnkfhoaaGreatDoorLexC
import Derived.Lib.Bytealg
namespace Go.Proofs.YtoafcpbpnkfhoaaGreatDoor.Lex
open Go.RowKit

theorem last_drop (l : List UInt8) (h : 1 ≤ l.length) : (l.drop (l.length - 1) == [117]) = hasU l := by
  rcases List.eq_nil_or_concat l with rfl | ⟨l', x, rfl⟩
  · simp at h
  · rw [Bool.eq_iff_iff]; simp [hasU]
/-- strings.CutSuffix with the suffix 'u'. -/
theorem cutSuffix_u (s : ByteArray) (w : World) (hl : s.size ≤ 4611686018427387904) : Calls Tryz.prog 68 #[.string s, .string ⟨#[117]⟩] w fun e w' => (∃ d : ByteArray, e = .returned (.tuple #[.string d, .bool (hasU (lst s))]) ∧ lst d = cutU (lst s)) ∧ w = w' := by
  by_cases h0 : s.size < 1
  · have hn : lst s = [] := List.eq_nil_of_length_eq_zero (by rw [lst_length]; omega)
    have hu : hasU (lst s) = false := by rw [hn]; rfl
    rw [hu]
    have Hc : Hid (lst s = cutU (lst s)) := Lib.hid (by rw [cutU, hu]; rfl)
    clear hn hu
    go_enter Tryz.func68, Tryz.ntmps68
    go_wp2
    go_ret2
    exact ⟨⟨s, rfl, Hc.out⟩, rfl⟩
  · have hlast : ((s.extract (s.size - 1) s.size).toList == [117]) = hasU (lst s) := by
      rw [lst_toList, lst_from, ← lst_length s]; exact last_drop _ (by rw [lst_length]; omega)
    have h1 : 1 ≤ s.size := by omega
    have hw1 : ((s.size : Int) - 1 + 9223372036854775808) % 18446744073709551616 - 9223372036854775808 = ((s.size - 1 : Nat) : Int) := by omega
    cases hu : hasU (lst s)
    · rw [hu] at hlast
      have Hc : Hid (lst s = cutU (lst s)) := Lib.hid (by rw [cutU, hu]; rfl)
      clear hu
      go_enter Tryz.func68, Tryz.ntmps68
      go_wp2
      go_ret2
      exact ⟨⟨s, rfl, Hc.out⟩, rfl⟩
    · rw [hu] at hlast
      have Hc : Hid (lst (s.extract 0 (s.size - 1)) = cutU (lst s)) := Lib.hid (by rw [cutU, hu, lst_to, if_pos rfl, List.dropLast_eq_take, lst_length])
      clear hu
      go_enter Tryz.func68, Tryz.ntmps68
      go_wp2
      go_ret2
      exact ⟨⟨_, rfl, Hc.out⟩, rfl⟩
theorem head_take (l : List UInt8) : (l.take 1 == [117]) = decide (l.head? = some 117) := by
  rw [Bool.eq_iff_iff]; cases l <;> simp
/-- strings.HasPrefix with the text 'u'. -/
theorem hasPrefix_u (s : ByteArray) (w : World) (hl : s.size ≤ 4611686018427387904) : Calls Tryz.prog 58 #[.string s, .string ⟨#[117]⟩] w fun e w' => e = .returned (.bool (decide ((lst s).head? = some 117))) ∧ w = w' := by
  by_cases h0 : s.size < 1
  · have hn : lst s = [] := List.eq_nil_of_length_eq_zero (by rw [lst_length]; omega)
    have e : decide ((lst s).head? = some 117) = false := by rw [hn]; rfl
    rw [e]; clear e hn
    go_enter Tryz.func58, Tryz.ntmps58
    go_wp2
    go_ret
    exact ⟨rfl, rfl⟩
  · have hp : ((s.extract 0 1).toList == [117]) = decide ((lst s).head? = some 117) := by rw [lst_toList, lst_to, head_take]
    have h1 : 1 ≤ s.size := by omega
    rw [← hp]; clear hp
    go_enter Tryz.func58, Tryz.ntmps58
    go_wp2
    go_ret
    exact ⟨rfl, rfl⟩
theorem idx_pos (l : List UInt8) (c : UInt8) : decide (0 ≤ Lib.indexByte l c) = l.contains c := by
  induction l with
  | nil => rfl
  | cons d l ih =>
    have hg := Lib.indexByte_ge l c
    rw [List.contains_cons, ← ih, Lib.indexByte, Bool.eq_iff_iff]
    by_cases h : d = c
    · subst h; simp
    · have h' : ¬ c = d := fun e => h e.symm
      simp only [beq_iff_eq, h, if_false, decide_eq_true_eq, Bool.or_eq_true, h', false_or]
      split <;> omega
set_option maxRecDepth 100000 in
/-- strings.IndexByte: whether there is one. -/
theorem indexByte_any (s : ByteArray) (c : UInt8) (w : World) : Calls Tryz.prog 60 #[.string s, .int .u8 c.toNat] w fun e w' => (∃ n : Int, e = .returned (.int .i64 n) ∧ decide (0 ≤ n) = (lst s).contains c) ∧ w = w' := by
  go_enter Tryz.func60, Tryz.ntmps60
  go_wp2
  rw [run_callFunc_extern Tryz.func84 (by kernel_rfl) (by kernel_rfl) (by kernel_rfl) (e := Extern.BytealgIndexByte.indexByte) (by kernel_rfl), Lib.run_indexByteString]
  simp only [Result.andThen]
  rw [Oper.upon_value]
  go_wp2
  go_ret
  refine ⟨⟨_, rfl, ?_⟩, rfl⟩
  exact idx_pos _ _
theorem index_yes (s : ByteArray) (c : UInt8) (w : World) (h : (lst s).contains c = true) : Calls Tryz.prog 60 #[.string s, .int .u8 c.toNat] w fun e w' => (∃ n : Int, e = .returned (.int .i64 n) ∧ 0 ≤ n) ∧ w = w' :=
  (indexByte_any s c w).mono fun _ _ ⟨⟨n, h1, h2⟩, h3⟩ => ⟨⟨n, h1, of_decide_eq_true (h2.trans h)⟩, h3⟩
theorem index_no (s : ByteArray) (c : UInt8) (w : World) (h : (lst s).contains c = false) : Calls Tryz.prog 60 #[.string s, .int .u8 c.toNat] w fun e w' => (∃ n : Int, e = .returned (.int .i64 n) ∧ n < 0) ∧ w = w' :=
  (indexByte_any s c w).mono fun _ _ ⟨⟨n, h1, h2⟩, h3⟩ => ⟨⟨n, h1, Int.not_le.1 (of_decide_eq_false (h2.trans h))⟩, h3⟩

theorem contains_no {ks : List (List UInt8)} {l : List UInt8} (h : ks.contains l = false) (k : List UInt8) (hk : ks.contains k = true) : (l == k) = false := by
  rw [beq_eq_false_iff_ne]; rintro rfl; rw [hk] at h; cases h
theorem lit_of {s : ByteArray} {l : List UInt8} (h : lst s = l) : s = ⟨l.toArray⟩ := by rw [← h, mk_lst]

theorem key_cases (l : List UInt8) (h : isKeyF l = true) : l = [103, 108, 111, 98, 97, 108] ∨ l = [102, 110] ∨ l = [114, 101, 113, 117, 105, 114, 101, 115] ∨ l = [101, 110, 115, 117, 114, 101, 115] ∨ l = [97, 115, 115, 105, 103, 110, 115] ∨ l = [110, 111, 116, 104, 105, 110, 103] ∨ l = [108, 101, 116] ∨ l = [99, 97, 108, 108] ∨ l = [105, 102] ∨ l = [101, 108, 115, 101] ∨ l = [119, 104, 105, 108, 101] ∨ l = [105, 110, 118, 97, 114, 105, 97, 110, 116] ∨ l = [98, 114, 101, 97, 107] ∨ l = [99, 111, 110, 116, 105, 110, 117, 101] ∨ l = [114, 101, 116, 117, 114, 110] ∨ l = [97, 115, 115, 101, 114, 116] ∨ l = [105, 110, 112, 117, 116] ∨ l = [111, 108, 100] ∨ l = [114, 101, 115, 117, 108, 116] ∨ l = [110, 111, 116] ∨ l = [97, 110, 100] ∨ l = [111, 114] ∨ l = [105, 56] ∨ l = [117, 56] ∨ l = [105, 49, 54] ∨ l = [117, 49, 54] ∨ l = [105, 51, 50] ∨ l = [117, 51, 50] := by
  simpa [isKeyF, keyWords] using h
set_option maxHeartbeats 2000000 in
theorem isKey_yes (s : ByteArray) (w : World) (h : isKeyF (lst s) = true) : Calls Tryz.prog 57 #[.string s] w fun e w' => e = .returned (.bool true) ∧ w = w' := by
  have hk := key_cases _ h
  clear h
  rcases hk with h | h | h | h | h | h | h | h | h | h | h | h | h | h | h | h | h | h | h | h | h | h | h | h | h | h | h | h
  all_goals
    obtain rfl := lit_of h
    clear h
    go_enter Tryz.func57, Tryz.ntmps57
    go_wp2
    go_ret
    exact ⟨rfl, rfl⟩
set_option maxHeartbeats 1000000 in
theorem isKey_no (s : ByteArray) (w : World) (h : isKeyF (lst s) = false) : Calls Tryz.prog 57 #[.string s] w fun e w' => e = .returned (.bool false) ∧ w = w' := by
  have H := Lib.hid (fun k hk => contains_no (ks := keyWords) (l := lst s) h k hk)
  clear h
  have k0 : (s.toList == [103, 108, 111, 98, 97, 108]) = false := by rw [lst_toList]; exact H.out _ (by decide)
  have k1 : (s.toList == [102, 110]) = false := by rw [lst_toList]; exact H.out _ (by decide)
  have k2 : (s.toList == [114, 101, 113, 117, 105, 114, 101, 115]) = false := by rw [lst_toList]; exact H.out _ (by decide)
  have k3 : (s.toList == [101, 110, 115, 117, 114, 101, 115]) = false := by rw [lst_toList]; exact H.out _ (by decide)
  have k4 : (s.toList == [97, 115, 115, 105, 103, 110, 115]) = false := by rw [lst_toList]; exact H.out _ (by decide)
  have k5 : (s.toList == [110, 111, 116, 104, 105, 110, 103]) = false := by rw [lst_toList]; exact H.out _ (by decide)
  have k6 : (s.toList == [108, 101, 116]) = false := by rw [lst_toList]; exact H.out _ (by decide)
  have k7 : (s.toList == [99, 97, 108, 108]) = false := by rw [lst_toList]; exact H.out _ (by decide)
  have k8 : (s.toList == [105, 102]) = false := by rw [lst_toList]; exact H.out _ (by decide)
  have k9 : (s.toList == [101, 108, 115, 101]) = false := by rw [lst_toList]; exact H.out _ (by decide)
  have k10 : (s.toList == [119, 104, 105, 108, 101]) = false := by rw [lst_toList]; exact H.out _ (by decide)
  have k11 : (s.toList == [105, 110, 118, 97, 114, 105, 97, 110, 116]) = false := by rw [lst_toList]; exact H.out _ (by decide)
  have k12 : (s.toList == [98, 114, 101, 97, 107]) = false := by rw [lst_toList]; exact H.out _ (by decide)
  have k13 : (s.toList == [99, 111, 110, 116, 105, 110, 117, 101]) = false := by rw [lst_toList]; exact H.out _ (by decide)
  have k14 : (s.toList == [114, 101, 116, 117, 114, 110]) = false := by rw [lst_toList]; exact H.out _ (by decide)
  have k15 : (s.toList == [97, 115, 115, 101, 114, 116]) = false := by rw [lst_toList]; exact H.out _ (by decide)
  have k16 : (s.toList == [105, 110, 112, 117, 116]) = false := by rw [lst_toList]; exact H.out _ (by decide)
  have k17 : (s.toList == [111, 108, 100]) = false := by rw [lst_toList]; exact H.out _ (by decide)
  have k18 : (s.toList == [114, 101, 115, 117, 108, 116]) = false := by rw [lst_toList]; exact H.out _ (by decide)
  have k19 : (s.toList == [110, 111, 116]) = false := by rw [lst_toList]; exact H.out _ (by decide)
  have k20 : (s.toList == [97, 110, 100]) = false := by rw [lst_toList]; exact H.out _ (by decide)
  have k21 : (s.toList == [111, 114]) = false := by rw [lst_toList]; exact H.out _ (by decide)
  have k22 : (s.toList == [105, 56]) = false := by rw [lst_toList]; exact H.out _ (by decide)
  have k23 : (s.toList == [117, 56]) = false := by rw [lst_toList]; exact H.out _ (by decide)
  have k24 : (s.toList == [105, 49, 54]) = false := by rw [lst_toList]; exact H.out _ (by decide)
  have k25 : (s.toList == [117, 49, 54]) = false := by rw [lst_toList]; exact H.out _ (by decide)
  have k26 : (s.toList == [105, 51, 50]) = false := by rw [lst_toList]; exact H.out _ (by decide)
  have k27 : (s.toList == [117, 51, 50]) = false := by rw [lst_toList]; exact H.out _ (by decide)
  clear H
  go_enter Tryz.func57, Tryz.ntmps57
  go_wp2
  go_ret
  exact ⟨rfl, rfl⟩
theorem isKey_any (s : ByteArray) (w : World) : Calls Tryz.prog 57 #[.string s] w fun e w' => e = .returned (.bool (isKeyF (lst s))) ∧ w = w' := by
  cases h : isKeyF (lst s)
  · exact isKey_no s w h
  · exact isKey_yes s w h

theorem two_cases (l : List UInt8) (h : twoSigns.contains l = true) : l = [61, 61] ∨ l = [33, 61] ∨ l = [60, 61] ∨ l = [62, 61] ∨ l = [60, 60] ∨ l = [62, 62] := by
  simpa [twoSigns] using h
theorem sign_one {l : List UInt8} (h : ¬ (1 < l.length ∧ twoSigns.contains (l.take 2) = true)) (h0 : 0 < l.length) : signF l = if oneSigns.contains l[0] then 1 else 0 := by
  unfold signF
  rw [if_neg h]
  cases l with
  | nil => simp at h0
  | cons c l => rfl
theorem sign_any (s : ByteArray) (w : World) (hl : s.size ≤ 4611686018427387904) (h0 : 0 < s.size) : Calls Tryz.prog 38 #[.string s] w fun e w' => e = .returned (.int .i64 (signF (lst s))) ∧ w = w' := by
  by_cases h2 : 1 < (lst s).length ∧ twoSigns.contains ((lst s).take 2) = true
  · have hs : signF (lst s) = 2 := by unfold signF; rw [if_pos h2]
    rw [hs]; clear hs
    obtain ⟨h1, h3⟩ := h2
    rw [lst_length] at h1
    rw [← lst_to, ← lst_toList] at h3
    rcases two_cases _ h3 with h | h | h | h | h | h
    all_goals
      clear h3
      go_enter Tryz.func38, Tryz.ntmps38
      go_wp2
      go_ret
      exact ⟨rfl, rfl⟩
  · have hs : signF (lst s) = if oneSigns.contains s[0] then 1 else 0 := sign_one h2 (by rw [lst_length]; exact h0)
    rw [hs]; clear hs
    cases hc : oneSigns.contains s[0]
    all_goals
      have Hc := Lib.hid hc
      clear hc
    case' false => rw [if_neg (by simp)]
    case' true => rw [if_pos rfl]
    all_goals
      by_cases h1 : 1 < s.size
      · have h3 : twoSigns.contains ((lst s).take 2) = false := by
          cases e : twoSigns.contains ((lst s).take 2)
          · rfl
          · exact absurd ⟨by rw [lst_length]; exact h1, e⟩ h2
        have H := Lib.hid (fun k hk => contains_no (ks := twoSigns) (l := (lst s).take 2) h3 k hk)
        clear h2 h3
        have k0 : ((s.extract 0 2).toList == [61, 61]) = false := by rw [lst_toList, lst_to]; exact H.out _ (by decide)
        have k1 : ((s.extract 0 2).toList == [33, 61]) = false := by rw [lst_toList, lst_to]; exact H.out _ (by decide)
        have k2 : ((s.extract 0 2).toList == [60, 61]) = false := by rw [lst_toList, lst_to]; exact H.out _ (by decide)
        have k3 : ((s.extract 0 2).toList == [62, 61]) = false := by rw [lst_toList, lst_to]; exact H.out _ (by decide)
        have k4 : ((s.extract 0 2).toList == [60, 60]) = false := by rw [lst_toList, lst_to]; exact H.out _ (by decide)
        have k5 : ((s.extract 0 2).toList == [62, 62]) = false := by rw [lst_toList, lst_to]; exact H.out _ (by decide)
        clear H
        go_enter Tryz.func38, Tryz.ntmps38
        go_wp2_with (go_at_call 60; (first | refine (index_no _ _ _ Hc.out).mono ?_ | refine (index_yes _ _ _ Hc.out).mono ?_); rintro e w' ⟨⟨n, rfl, hn⟩, rfl⟩)
        go_ret
        exact ⟨rfl, rfl⟩
      · clear h2
        go_enter Tryz.func38, Tryz.ntmps38
        go_wp2_with (go_at_call 60; (first | refine (index_no _ _ _ Hc.out).mono ?_ | refine (index_yes _ _ _ Hc.out).mono ?_); rintro e w' ⟨⟨n, rfl, hn⟩, rfl⟩)
        go_ret
        exact ⟨rfl, rfl⟩
end Go.Proofs.YtoafcpbpnkfhoaaGreatDoor.Lex
