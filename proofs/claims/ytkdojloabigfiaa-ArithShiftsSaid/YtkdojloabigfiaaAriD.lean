/-
  Contracts of the document's answer for arith.Do (moved, Do): each returns what a plain function gives, and leaves the world alone. Condition of moved: a shift of a number of its type.
-/
import Derived.Test.YtkdojloabigfiaaAriT
import Derived.Test.YtkdojloabigfiaaAriQ
namespace Go.Proofs.Ytkdojloabigfiaa.Typ
open Go.RowKit

set_option maxHeartbeats 4000000 in
theorem moved_any (k t a b : Int) (w : World) (ht : t = 5 ∨ t = 6) (hk : k = 16 ∨ k = 17) (ha : inF t a = true) :
    Calls Try.prog 20 #[.int .i64 k, .int .i64 t, .int .i64 a, .int .i64 b] w fun e w' => e = .returned (.tuple #[.int .i64 (doV k t a b), .int .i64 (doU k t a b)]) ∧ w = w' := by
  have htk := tk_sh (b := b) ht hk ha
  by_cases hb : b < 0 ∨ 31 < b
  · have hu := ud_sh (t := t) (a := a) hk hb
    obtain ⟨e0, e1⟩ := do_bad htk (by rw [hu]; decide)
    rw [e0, e1, hu]; clear e0 e1 hu htk hk ha ht
    rcases hb with hb | hb
    all_goals
      go_enter Try.func20, Try.ntmps20
      go_wp2
      go_ret2
      exact ⟨rfl, rfl⟩
  have hb' : 0 ≤ b ∧ b ≤ 31 := by omega
  clear hb
  have hw := wide ht ha
  have hq := shl_bd (a := a) (n := b.toNat) hw (by omega)
  rcases hk with rfl | rfl
  · rcases ht with rfl | rfl
    · have h5 := in5 ha
      have ho : ovF 16 a b = (decide (a < 0) || !inF 5 (a * 2 ^ b.toNat)) := by unfold ovF exV; simp
      by_cases hn : a < 0
      · obtain ⟨e0, e1⟩ := five_no htk (by omega) (by omega) (by rw [ho]; simp [hn])
        rw [e0, e1]; clear e0 e1 ho htk ha
        go_enter Try.func20, Try.ntmps20
        go_wp2
        go_ret2
        exact ⟨rfl, rfl⟩
      · cases hi : inF 5 (a * 2 ^ b.toNat)
        · obtain ⟨e0, e1⟩ := five_no htk (by omega) (by omega) (by rw [ho, hi]; simp)
          rw [e0, e1]; clear e0 e1 ho htk ha
          go_enter Try.func20, Try.ntmps20
          go_wp2_with (first | (go_at_call 15; refine (rin_any _ _ _).mono ?_; rintro e w' ⟨rfl, rfl⟩))
          go_ret2
          exact ⟨rfl, rfl⟩
        · have h5' := in5 hi
          obtain ⟨e0, e1⟩ := five_yes htk (by omega) (by omega) (by rw [ho, hi]; simp [hn]) (v := a * 2 ^ b.toNat) (by have : exV 16 a b = a * 2 ^ b.toNat := by unfold exV; simp
                                                                                                                       rw [this]; exact wrap5 h5')
          rw [e0, e1]; clear e0 e1 ho htk ha
          go_enter Try.func20, Try.ntmps20
          go_wp2_with (first | (go_at_call 15; refine (rin_any _ _ _).mono ?_; rintro e w' ⟨rfl, rfl⟩))
          go_ret2
          exact ⟨rfl, rfl⟩
    · have h5 := in6 ha
      obtain ⟨e0, e1⟩ := six_yes htk (by omega) (by omega) (v := wrapF 6 (a * 2 ^ b.toNat)) (by unfold exV; simp)
      rw [e0, e1]; clear e0 e1 htk ha
      go_enter Try.func20, Try.ntmps20
      go_wp2_with (first | (go_at_call 14; refine (rwrap_any _ _ _).mono ?_; rintro e w' ⟨rfl, rfl⟩))
      go_ret2
      exact ⟨rfl, rfl⟩
  · rcases ht with rfl | rfl
    · have h5 := in5 ha
      have hr := shr_bd (m := -2147483648) (n' := 2147483647) (n := b.toNat) (by omega) (by omega) h5 (by omega)
      have hx : exV 17 a b = a / 2 ^ b.toNat := by unfold exV; simp
      obtain ⟨e0, e1⟩ := five_yes htk (by omega) (by omega) (by rw [ov_plain (by omega), hx, in5' hr]; rfl) (v := a / 2 ^ b.toNat) (by rw [hx]; exact wrap5 hr)
      rw [e0, e1]; clear e0 e1 htk ha hx
      go_enter Try.func20, Try.ntmps20
      go_wp2
      go_ret2
      exact ⟨rfl, rfl⟩
    · have h5 := in6 ha
      have hr := shr_bd (m := 0) (n' := 4294967295) (n := b.toNat) (by omega) (by omega) h5 (by omega)
      have hx : exV 17 a b = a / 2 ^ b.toNat := by unfold exV; simp
      obtain ⟨e0, e1⟩ := six_yes htk (by omega) (by omega) (v := a / 2 ^ b.toNat) (by rw [hx]; exact wrap6 hr)
      rw [e0, e1]; clear e0 e1 htk ha hx
      go_enter Try.func20, Try.ntmps20
      go_wp2
      go_ret2
      exact ⟨rfl, rfl⟩


set_option maxHeartbeats 4000000 in
theorem rdo_6_5 (a b : Int) (w : World) (ha : inF 5 a = true) (hb : inF 5 b = true) :
    Calls Try.prog 10 #[.int .i64 6, .int .i64 5, .int .i64 a, .int .i64 b] w fun e w' => e = .returned (.tuple #[.int .i64 (doV 6 5 a b), .int .i64 (doU 6 5 a b)]) ∧ w = w' := by
  have htk := tk_low (k := 6) (.inl rfl) (by omega) ha hb
  have ha' := in5 ha
  have hb' := in5 hb
  have hx : exV 6 a b = -a := by unfold exV; simp
  have ho : ovF 6 a b = !inF 5 (-a) := by rw [ov_plain (by omega), hx]
  cases hi : inF 5 (-a)
  · obtain ⟨e0, e1⟩ := five_no htk (by omega) (by omega) (by rw [ho, hi]; rfl)
    rw [e0, e1]; clear e0 e1 hx htk ho
    go_enter Try.func10, Try.ntmps10
    go_wp2_with (first | (go_at_call 15; refine (rin_any _ _ _).mono ?_; rintro e w' ⟨rfl, rfl⟩) | (go_at_call 14; refine (rwrap_any _ _ _).mono ?_; rintro e w' ⟨rfl, rfl⟩))
    go_ret2
    exact ⟨rfl, rfl⟩
  · obtain ⟨e0, e1⟩ := five_yes htk (by omega) (by omega) (by rw [ho, hi]; rfl) (v := -a) (by rw [hx]; exact wrap5 (in5 hi))
    rw [e0, e1]; clear e0 e1 hx htk ho
    go_enter Try.func10, Try.ntmps10
    go_wp2_with (first | (go_at_call 15; refine (rin_any _ _ _).mono ?_; rintro e w' ⟨rfl, rfl⟩) | (go_at_call 14; refine (rwrap_any _ _ _).mono ?_; rintro e w' ⟨rfl, rfl⟩))
    go_ret2
    exact ⟨rfl, rfl⟩

set_option maxHeartbeats 4000000 in
theorem rdo_6_6 (a b : Int) (w : World) (ha : inF 6 a = true) (hb : inF 6 b = true) :
    Calls Try.prog 10 #[.int .i64 6, .int .i64 6, .int .i64 a, .int .i64 b] w fun e w' => e = .returned (.tuple #[.int .i64 (doV 6 6 a b), .int .i64 (doU 6 6 a b)]) ∧ w = w' := by
  have htk := tk_low (k := 6) (.inr rfl) (by omega) ha hb
  have ha' := in6 ha
  have hb' := in6 hb
  have hx : exV 6 a b = -a := by unfold exV; simp
  obtain ⟨e0, e1⟩ := six_yes htk (by omega) (by omega) (v := wrapF 6 (-a)) (by rw [hx])
  rw [e0, e1]; clear e0 e1 hx htk
  go_enter Try.func10, Try.ntmps10
  go_wp2_with (first | (go_at_call 15; refine (rin_any _ _ _).mono ?_; rintro e w' ⟨rfl, rfl⟩) | (go_at_call 14; refine (rwrap_any _ _ _).mono ?_; rintro e w' ⟨rfl, rfl⟩))
  go_ret2
  exact ⟨rfl, rfl⟩

set_option maxHeartbeats 4000000 in
theorem rdo_7_5 (a b : Int) (w : World) (ha : inF 5 a = true) (hb : inF 5 b = true) :
    Calls Try.prog 10 #[.int .i64 7, .int .i64 5, .int .i64 a, .int .i64 b] w fun e w' => e = .returned (.tuple #[.int .i64 (doV 7 5 a b), .int .i64 (doU 7 5 a b)]) ∧ w = w' := by
  have htk := tk_low (k := 7) (.inl rfl) (by omega) ha hb
  have ha' := in5 ha
  have hb' := in5 hb
  have hc := com_64' a (by omega)
  have hx : exV 7 a b = -1 - a := by unfold exV; simp
  have hi := in5' (v := -1 - a) (by omega)
  have hw := wrap5 (v := -1 - a) (by omega)
  have hi' : inF 5 (wrapF 5 (bits .xor .i64 (if IntKind.i64.signed = true then -1 else 9223372036854775807) a)) = true := wrap_in5 _
  have ho : ovF 7 a b = !inF 5 (-1 - a) := by rw [ov_plain (by omega), hx]
  obtain ⟨e0, e1⟩ := five_yes htk (by omega) (by omega) (by rw [ho, hi]; rfl) (v := -1 - a) (by rw [hx]; exact hw)
  rw [e0, e1]; clear e0 e1 hx htk ho
  go_enter Try.func10, Try.ntmps10
  go_wp2_with (first | (go_at_call 15; refine (rin_any _ _ _).mono ?_; rintro e w' ⟨rfl, rfl⟩) | (go_at_call 14; refine (rwrap_any _ _ _).mono ?_; rintro e w' ⟨rfl, rfl⟩))
  go_ret2
  exact ⟨rfl, rfl⟩

set_option maxHeartbeats 4000000 in
theorem rdo_7_6 (a b : Int) (w : World) (ha : inF 6 a = true) (hb : inF 6 b = true) :
    Calls Try.prog 10 #[.int .i64 7, .int .i64 6, .int .i64 a, .int .i64 b] w fun e w' => e = .returned (.tuple #[.int .i64 (doV 7 6 a b), .int .i64 (doU 7 6 a b)]) ∧ w = w' := by
  have htk := tk_low (k := 7) (.inr rfl) (by omega) ha hb
  have ha' := in6 ha
  have hb' := in6 hb
  have hc := com_64' a (by omega)
  have hx : exV 7 a b = -1 - a := by unfold exV; simp
  obtain ⟨e0, e1⟩ := six_yes htk (by omega) (by omega) (v := wrapF 6 (-1 - a)) (by rw [hx])
  rw [e0, e1]; clear e0 e1 hx htk
  go_enter Try.func10, Try.ntmps10
  go_wp2_with (first | (go_at_call 15; refine (rin_any _ _ _).mono ?_; rintro e w' ⟨rfl, rfl⟩) | (go_at_call 14; refine (rwrap_any _ _ _).mono ?_; rintro e w' ⟨rfl, rfl⟩))
  go_ret2
  exact ⟨ret_two (by unfold wrapF; simp) rfl, rfl⟩

set_option maxHeartbeats 4000000 in
theorem rdo_8_5 (a b : Int) (w : World) (ha : inF 5 a = true) (hb : inF 5 b = true) :
    Calls Try.prog 10 #[.int .i64 8, .int .i64 5, .int .i64 a, .int .i64 b] w fun e w' => e = .returned (.tuple #[.int .i64 (doV 8 5 a b), .int .i64 (doU 8 5 a b)]) ∧ w = w' := by
  have htk := tk_low (k := 8) (.inl rfl) (by omega) ha hb
  have ha' := in5 ha
  have hb' := in5 hb
  have hx : exV 8 a b = a + b := by unfold exV; simp
  have ho : ovF 8 a b = !inF 5 (a + b) := by rw [ov_plain (by omega), hx]
  cases hi : inF 5 (a + b)
  · obtain ⟨e0, e1⟩ := five_no htk (by omega) (by omega) (by rw [ho, hi]; rfl)
    rw [e0, e1]; clear e0 e1 hx htk ho
    go_enter Try.func10, Try.ntmps10
    go_wp2_with (first | (go_at_call 15; refine (rin_any _ _ _).mono ?_; rintro e w' ⟨rfl, rfl⟩) | (go_at_call 14; refine (rwrap_any _ _ _).mono ?_; rintro e w' ⟨rfl, rfl⟩))
    go_ret2
    exact ⟨rfl, rfl⟩
  · obtain ⟨e0, e1⟩ := five_yes htk (by omega) (by omega) (by rw [ho, hi]; rfl) (v := a + b) (by rw [hx]; exact wrap5 (in5 hi))
    rw [e0, e1]; clear e0 e1 hx htk ho
    go_enter Try.func10, Try.ntmps10
    go_wp2_with (first | (go_at_call 15; refine (rin_any _ _ _).mono ?_; rintro e w' ⟨rfl, rfl⟩) | (go_at_call 14; refine (rwrap_any _ _ _).mono ?_; rintro e w' ⟨rfl, rfl⟩))
    go_ret2
    exact ⟨rfl, rfl⟩

set_option maxHeartbeats 4000000 in
theorem rdo_8_6 (a b : Int) (w : World) (ha : inF 6 a = true) (hb : inF 6 b = true) :
    Calls Try.prog 10 #[.int .i64 8, .int .i64 6, .int .i64 a, .int .i64 b] w fun e w' => e = .returned (.tuple #[.int .i64 (doV 8 6 a b), .int .i64 (doU 8 6 a b)]) ∧ w = w' := by
  have htk := tk_low (k := 8) (.inr rfl) (by omega) ha hb
  have ha' := in6 ha
  have hb' := in6 hb
  have hx : exV 8 a b = a + b := by unfold exV; simp
  obtain ⟨e0, e1⟩ := six_yes htk (by omega) (by omega) (v := wrapF 6 (a + b)) (by rw [hx])
  rw [e0, e1]; clear e0 e1 hx htk
  go_enter Try.func10, Try.ntmps10
  go_wp2_with (first | (go_at_call 15; refine (rin_any _ _ _).mono ?_; rintro e w' ⟨rfl, rfl⟩) | (go_at_call 14; refine (rwrap_any _ _ _).mono ?_; rintro e w' ⟨rfl, rfl⟩))
  go_ret2
  exact ⟨rfl, rfl⟩

set_option maxHeartbeats 4000000 in
theorem rdo_9_5 (a b : Int) (w : World) (ha : inF 5 a = true) (hb : inF 5 b = true) :
    Calls Try.prog 10 #[.int .i64 9, .int .i64 5, .int .i64 a, .int .i64 b] w fun e w' => e = .returned (.tuple #[.int .i64 (doV 9 5 a b), .int .i64 (doU 9 5 a b)]) ∧ w = w' := by
  have htk := tk_low (k := 9) (.inl rfl) (by omega) ha hb
  have ha' := in5 ha
  have hb' := in5 hb
  have hx : exV 9 a b = a - b := by unfold exV; simp
  have ho : ovF 9 a b = !inF 5 (a - b) := by rw [ov_plain (by omega), hx]
  cases hi : inF 5 (a - b)
  · obtain ⟨e0, e1⟩ := five_no htk (by omega) (by omega) (by rw [ho, hi]; rfl)
    rw [e0, e1]; clear e0 e1 hx htk ho
    go_enter Try.func10, Try.ntmps10
    go_wp2_with (first | (go_at_call 15; refine (rin_any _ _ _).mono ?_; rintro e w' ⟨rfl, rfl⟩) | (go_at_call 14; refine (rwrap_any _ _ _).mono ?_; rintro e w' ⟨rfl, rfl⟩))
    go_ret2
    exact ⟨rfl, rfl⟩
  · obtain ⟨e0, e1⟩ := five_yes htk (by omega) (by omega) (by rw [ho, hi]; rfl) (v := a - b) (by rw [hx]; exact wrap5 (in5 hi))
    rw [e0, e1]; clear e0 e1 hx htk ho
    go_enter Try.func10, Try.ntmps10
    go_wp2_with (first | (go_at_call 15; refine (rin_any _ _ _).mono ?_; rintro e w' ⟨rfl, rfl⟩) | (go_at_call 14; refine (rwrap_any _ _ _).mono ?_; rintro e w' ⟨rfl, rfl⟩))
    go_ret2
    exact ⟨rfl, rfl⟩

set_option maxHeartbeats 4000000 in
theorem rdo_9_6 (a b : Int) (w : World) (ha : inF 6 a = true) (hb : inF 6 b = true) :
    Calls Try.prog 10 #[.int .i64 9, .int .i64 6, .int .i64 a, .int .i64 b] w fun e w' => e = .returned (.tuple #[.int .i64 (doV 9 6 a b), .int .i64 (doU 9 6 a b)]) ∧ w = w' := by
  have htk := tk_low (k := 9) (.inr rfl) (by omega) ha hb
  have ha' := in6 ha
  have hb' := in6 hb
  have hx : exV 9 a b = a - b := by unfold exV; simp
  obtain ⟨e0, e1⟩ := six_yes htk (by omega) (by omega) (v := wrapF 6 (a - b)) (by rw [hx])
  rw [e0, e1]; clear e0 e1 hx htk
  go_enter Try.func10, Try.ntmps10
  go_wp2_with (first | (go_at_call 15; refine (rin_any _ _ _).mono ?_; rintro e w' ⟨rfl, rfl⟩) | (go_at_call 14; refine (rwrap_any _ _ _).mono ?_; rintro e w' ⟨rfl, rfl⟩))
  go_ret2
  exact ⟨rfl, rfl⟩

set_option maxHeartbeats 4000000 in
theorem rdo_10_5 (a b : Int) (w : World) (ha : inF 5 a = true) (hb : inF 5 b = true) :
    Calls Try.prog 10 #[.int .i64 10, .int .i64 5, .int .i64 a, .int .i64 b] w fun e w' => e = .returned (.tuple #[.int .i64 (doV 10 5 a b), .int .i64 (doU 10 5 a b)]) ∧ w = w' := by
  have htk := tk_low (k := 10) (.inl rfl) (by omega) ha hb
  have ha' := in5 ha
  have hb' := in5 hb
  have hm := mul_32 ha' hb'
  have hx : exV 10 a b = a * b := by unfold exV; simp; exact wrap64_in (by omega)
  have ho : ovF 10 a b = !inF 5 (a * b) := by rw [ov_plain (by omega), hx]
  cases hi : inF 5 (a * b)
  · obtain ⟨e0, e1⟩ := five_no htk (by omega) (by omega) (by rw [ho, hi]; rfl)
    rw [e0, e1]; clear e0 e1 hx htk ho
    go_enter Try.func10, Try.ntmps10
    go_wp2_with (first | (go_at_call 15; refine (rin_any _ _ _).mono ?_; rintro e w' ⟨rfl, rfl⟩) | (go_at_call 14; refine (rwrap_any _ _ _).mono ?_; rintro e w' ⟨rfl, rfl⟩))
    go_ret2
    exact ⟨rfl, rfl⟩
  · obtain ⟨e0, e1⟩ := five_yes htk (by omega) (by omega) (by rw [ho, hi]; rfl) (v := a * b) (by rw [hx]; exact wrap5 (in5 hi))
    rw [e0, e1]; clear e0 e1 hx htk ho
    go_enter Try.func10, Try.ntmps10
    go_wp2_with (first | (go_at_call 15; refine (rin_any _ _ _).mono ?_; rintro e w' ⟨rfl, rfl⟩) | (go_at_call 14; refine (rwrap_any _ _ _).mono ?_; rintro e w' ⟨rfl, rfl⟩))
    go_ret2
    exact ⟨rfl, rfl⟩

set_option maxHeartbeats 4000000 in
theorem rdo_10_6 (a b : Int) (w : World) (ha : inF 6 a = true) (hb : inF 6 b = true) :
    Calls Try.prog 10 #[.int .i64 10, .int .i64 6, .int .i64 a, .int .i64 b] w fun e w' => e = .returned (.tuple #[.int .i64 (doV 10 6 a b), .int .i64 (doU 10 6 a b)]) ∧ w = w' := by
  have htk := tk_low (k := 10) (.inr rfl) (by omega) ha hb
  have ha' := in6 ha
  have hb' := in6 hb
  have hx : exV 10 a b = wrap64 (a * b) := by unfold exV; simp
  obtain ⟨e0, e1⟩ := six_yes htk (by omega) (by omega) (v := a * b % 4294967296) (by rw [hx]; exact mod_64_32 _)
  rw [e0, e1]; clear e0 e1 hx htk
  go_enter Try.func10, Try.ntmps10
  go_wp2_with (first | (go_at_call 15; refine (rin_any _ _ _).mono ?_; rintro e w' ⟨rfl, rfl⟩) | (go_at_call 14; refine (rwrap_any _ _ _).mono ?_; rintro e w' ⟨rfl, rfl⟩))
  go_ret2
  exact ⟨ret_two (by have hu : IntKind.u64.wrap (a * b) = (a * b) % 18446744073709551616 := by simp [IntKind.wrap, IntKind.bits, IntKind.signed]
                     rw [hu]; unfold wrapF wrap64; simp; omega) rfl, rfl⟩

set_option maxHeartbeats 4000000 in
theorem rdo_11_5 (a b : Int) (w : World) (ha : inF 5 a = true) (hb : inF 5 b = true) :
    Calls Try.prog 10 #[.int .i64 11, .int .i64 5, .int .i64 a, .int .i64 b] w fun e w' => e = .returned (.tuple #[.int .i64 (doV 11 5 a b), .int .i64 (doU 11 5 a b)]) ∧ w = w' := by
  have htk := tk_low (k := 11) (.inl rfl) (by omega) ha hb
  have ha' := in5 ha
  have hb' := in5 hb
  by_cases h0 : b = 0
  · subst h0
    have hu := ud_div (k := 11) (t := 5) (a := a) (by omega)
    obtain ⟨e0, e1⟩ := do_bad htk (by rw [hu]; decide)
    rw [e0, e1, hu]; clear e0 e1 hu htk
    go_enter Try.func10, Try.ntmps10
    go_wp2_with (first | (go_at_call 15; refine (rin_any _ _ _).mono ?_; rintro e w' ⟨rfl, rfl⟩) | (go_at_call 14; refine (rwrap_any _ _ _).mono ?_; rintro e w' ⟨rfl, rfl⟩))
    go_ret2
    exact ⟨rfl, rfl⟩
  have h0' : (b == 0) = false := by simpa using h0
  have hq := tdiv_ab (a := a) (b := b) (m := 2147483648) (by omega)
  have hx : exV 11 a b = a.tdiv b := by unfold exV; simp
  have ho : ovF 11 a b = !inF 5 (a.tdiv b) := by rw [ov_plain (by omega), hx]
  cases hi : inF 5 (a.tdiv b)
  · obtain ⟨e0, e1⟩ := five_no htk (fun _ => h0) (by omega) (by rw [ho, hi]; rfl)
    rw [e0, e1]; clear e0 e1 hx htk ho
    go_enter Try.func10, Try.ntmps10
    go_wp2_with (first | (go_at_call 15; refine (rin_any _ _ _).mono ?_; rintro e w' ⟨rfl, rfl⟩) | (go_at_call 14; refine (rwrap_any _ _ _).mono ?_; rintro e w' ⟨rfl, rfl⟩))
    go_ret2
    exact ⟨rfl, rfl⟩
  · obtain ⟨e0, e1⟩ := five_yes htk (fun _ => h0) (by omega) (by rw [ho, hi]; rfl) (v := a.tdiv b) (by rw [hx]; exact wrap5 (in5 hi))
    rw [e0, e1]; clear e0 e1 hx htk ho
    go_enter Try.func10, Try.ntmps10
    go_wp2_with (first | (go_at_call 15; refine (rin_any _ _ _).mono ?_; rintro e w' ⟨rfl, rfl⟩) | (go_at_call 14; refine (rwrap_any _ _ _).mono ?_; rintro e w' ⟨rfl, rfl⟩))
    go_ret2
    exact ⟨rfl, rfl⟩

set_option maxHeartbeats 4000000 in
theorem rdo_11_6 (a b : Int) (w : World) (ha : inF 6 a = true) (hb : inF 6 b = true) :
    Calls Try.prog 10 #[.int .i64 11, .int .i64 6, .int .i64 a, .int .i64 b] w fun e w' => e = .returned (.tuple #[.int .i64 (doV 11 6 a b), .int .i64 (doU 11 6 a b)]) ∧ w = w' := by
  have htk := tk_low (k := 11) (.inr rfl) (by omega) ha hb
  have ha' := in6 ha
  have hb' := in6 hb
  by_cases h0 : b = 0
  · subst h0
    have hu := ud_div (k := 11) (t := 6) (a := a) (by omega)
    obtain ⟨e0, e1⟩ := do_bad htk (by rw [hu]; decide)
    rw [e0, e1, hu]; clear e0 e1 hu htk
    go_enter Try.func10, Try.ntmps10
    go_wp2_with (first | (go_at_call 15; refine (rin_any _ _ _).mono ?_; rintro e w' ⟨rfl, rfl⟩) | (go_at_call 14; refine (rwrap_any _ _ _).mono ?_; rintro e w' ⟨rfl, rfl⟩))
    go_ret2
    exact ⟨rfl, rfl⟩
  have h0' : (b == 0) = false := by simpa using h0
  have hq := tdiv_ab (a := a) (b := b) (m := 4294967295) (by omega)
  have hx : exV 11 a b = a.tdiv b := by unfold exV; simp
  have hq' := Int.tdiv_nonneg ha'.1 hb'.1
  have hi := in6' (v := a.tdiv b) (by omega)
  obtain ⟨e0, e1⟩ := six_yes htk (fun _ => h0) (by omega) (v := wrapF 6 (a.tdiv b)) (by rw [hx])
  rw [e0, e1]; clear e0 e1 hx htk
  go_enter Try.func10, Try.ntmps10
  go_wp2_with (first | (go_at_call 15; refine (rin_any _ _ _).mono ?_; rintro e w' ⟨rfl, rfl⟩) | (go_at_call 14; refine (rwrap_any _ _ _).mono ?_; rintro e w' ⟨rfl, rfl⟩))
  go_ret2
  first | exact ⟨rfl, rfl⟩ | exact ⟨ret_two (by rw [Int.tmod_eq_emod_of_nonneg ha'.1]) rfl, rfl⟩

set_option maxHeartbeats 4000000 in
theorem rdo_12_5 (a b : Int) (w : World) (ha : inF 5 a = true) (hb : inF 5 b = true) :
    Calls Try.prog 10 #[.int .i64 12, .int .i64 5, .int .i64 a, .int .i64 b] w fun e w' => e = .returned (.tuple #[.int .i64 (doV 12 5 a b), .int .i64 (doU 12 5 a b)]) ∧ w = w' := by
  have htk := tk_low (k := 12) (.inl rfl) (by omega) ha hb
  have ha' := in5 ha
  have hb' := in5 hb
  by_cases h0 : b = 0
  · subst h0
    have hu := ud_div (k := 12) (t := 5) (a := a) (by omega)
    obtain ⟨e0, e1⟩ := do_bad htk (by rw [hu]; decide)
    rw [e0, e1, hu]; clear e0 e1 hu htk
    go_enter Try.func10, Try.ntmps10
    go_wp2_with (first | (go_at_call 15; refine (rin_any _ _ _).mono ?_; rintro e w' ⟨rfl, rfl⟩) | (go_at_call 14; refine (rwrap_any _ _ _).mono ?_; rintro e w' ⟨rfl, rfl⟩))
    go_ret2
    exact ⟨rfl, rfl⟩
  have h0' : (b == 0) = false := by simpa using h0
  have hq := tdiv_ab (a := a) (b := b) (m := 2147483648) (by omega)
  have hx : exV 12 a b = a.tmod b := by unfold exV; simp
  have ho : ovF 12 a b = !inF 5 (a.tdiv b) := by unfold ovF exV; simp
  have hm := tmod_in (b := b) ha'
  have hi2 := in5' hm
  cases hi : inF 5 (a.tdiv b)
  · obtain ⟨e0, e1⟩ := five_no htk (fun _ => h0) (by omega) (by rw [ho, hi]; rfl)
    rw [e0, e1]; clear e0 e1 hx htk ho
    go_enter Try.func10, Try.ntmps10
    go_wp2_with (first | (go_at_call 15; refine (rin_any _ _ _).mono ?_; rintro e w' ⟨rfl, rfl⟩) | (go_at_call 14; refine (rwrap_any _ _ _).mono ?_; rintro e w' ⟨rfl, rfl⟩))
    go_ret2
    exact ⟨rfl, rfl⟩
  · obtain ⟨e0, e1⟩ := five_yes htk (fun _ => h0) (by omega) (by rw [ho, hi]; rfl) (v := a.tmod b) (by rw [hx]; exact wrap5 hm)
    rw [e0, e1]; clear e0 e1 hx htk ho
    go_enter Try.func10, Try.ntmps10
    go_wp2_with (first | (go_at_call 15; refine (rin_any _ _ _).mono ?_; rintro e w' ⟨rfl, rfl⟩) | (go_at_call 14; refine (rwrap_any _ _ _).mono ?_; rintro e w' ⟨rfl, rfl⟩))
    go_ret2
    exact ⟨rfl, rfl⟩

set_option maxHeartbeats 4000000 in
theorem rdo_12_6 (a b : Int) (w : World) (ha : inF 6 a = true) (hb : inF 6 b = true) :
    Calls Try.prog 10 #[.int .i64 12, .int .i64 6, .int .i64 a, .int .i64 b] w fun e w' => e = .returned (.tuple #[.int .i64 (doV 12 6 a b), .int .i64 (doU 12 6 a b)]) ∧ w = w' := by
  have htk := tk_low (k := 12) (.inr rfl) (by omega) ha hb
  have ha' := in6 ha
  have hb' := in6 hb
  by_cases h0 : b = 0
  · subst h0
    have hu := ud_div (k := 12) (t := 6) (a := a) (by omega)
    obtain ⟨e0, e1⟩ := do_bad htk (by rw [hu]; decide)
    rw [e0, e1, hu]; clear e0 e1 hu htk
    go_enter Try.func10, Try.ntmps10
    go_wp2_with (first | (go_at_call 15; refine (rin_any _ _ _).mono ?_; rintro e w' ⟨rfl, rfl⟩) | (go_at_call 14; refine (rwrap_any _ _ _).mono ?_; rintro e w' ⟨rfl, rfl⟩))
    go_ret2
    exact ⟨rfl, rfl⟩
  have h0' : (b == 0) = false := by simpa using h0
  have hq := tdiv_ab (a := a) (b := b) (m := 4294967295) (by omega)
  have hx : exV 12 a b = a.tmod b := by unfold exV; simp
  have hq' := Int.tdiv_nonneg ha'.1 hb'.1
  have hi := in6' (v := a.tdiv b) (by omega)
  have hm := tmod_ab (a := a) (b := b) (m := 4294967295) (by omega)
  obtain ⟨e0, e1⟩ := six_yes htk (fun _ => h0) (by omega) (v := wrapF 6 (a.tmod b)) (by rw [hx])
  rw [e0, e1]; clear e0 e1 hx htk
  go_enter Try.func10, Try.ntmps10
  go_wp2_with (first | (go_at_call 15; refine (rin_any _ _ _).mono ?_; rintro e w' ⟨rfl, rfl⟩) | (go_at_call 14; refine (rwrap_any _ _ _).mono ?_; rintro e w' ⟨rfl, rfl⟩))
  go_ret2
  first | exact ⟨rfl, rfl⟩ | exact ⟨ret_two (by rw [Int.tmod_eq_emod_of_nonneg ha'.1]) rfl, rfl⟩

set_option maxHeartbeats 4000000 in
theorem rdo_13_5 (a b : Int) (w : World) (ha : inF 5 a = true) (hb : inF 5 b = true) :
    Calls Try.prog 10 #[.int .i64 13, .int .i64 5, .int .i64 a, .int .i64 b] w fun e w' => e = .returned (.tuple #[.int .i64 (doV 13 5 a b), .int .i64 (doU 13 5 a b)]) ∧ w = w' := by
  have htk := tk_low (k := 13) (.inl rfl) (by omega) ha hb
  have ha' := in5 ha
  have hb' := in5 hb
  have hx : exV 13 a b = bits .and .i64 a b := by unfold exV; simp
  have hd : bits .and .i64 a b = bits .and .i32 a b := bits_32 .and (by simp) ha' hb'
  have hr := bits_bd .and a b
  rw [← hd] at hr; clear hd
  have hi := in5' hr
  have ho : ovF 13 a b = !inF 5 (bits .and .i64 a b) := by rw [ov_plain (by omega), hx]
  obtain ⟨e0, e1⟩ := five_yes htk (by omega) (by omega) (by rw [ho, hi]; rfl) (v := bits .and .i64 a b) (by rw [hx]; exact wrap5 hr)
  rw [e0, e1]; clear e0 e1 hx htk ho
  go_enter Try.func10, Try.ntmps10
  go_wp2_with (first | (go_at_call 15; refine (rin_any _ _ _).mono ?_; rintro e w' ⟨rfl, rfl⟩) | (go_at_call 14; refine (rwrap_any _ _ _).mono ?_; rintro e w' ⟨rfl, rfl⟩))
  go_ret2
  exact ⟨rfl, rfl⟩

set_option maxHeartbeats 4000000 in
theorem rdo_13_6 (a b : Int) (w : World) (ha : inF 6 a = true) (hb : inF 6 b = true) :
    Calls Try.prog 10 #[.int .i64 13, .int .i64 6, .int .i64 a, .int .i64 b] w fun e w' => e = .returned (.tuple #[.int .i64 (doV 13 6 a b), .int .i64 (doU 13 6 a b)]) ∧ w = w' := by
  have htk := tk_low (k := 13) (.inr rfl) (by omega) ha hb
  have ha' := in6 ha
  have hb' := in6 hb
  have hx : exV 13 a b = bits .and .i64 a b := by unfold exV; simp
  have hd : bits .and .i64 a b = bits .and .u32 a b := bits_u .and (by simp) ha' hb'
  have hr := bits_ubd .and a b
  rw [← hd] at hr; clear hd
  obtain ⟨e0, e1⟩ := six_yes htk (by omega) (by omega) (v := wrapF 6 (bits .and .i64 a b)) (by rw [hx])
  rw [e0, e1]; clear e0 e1 hx htk
  go_enter Try.func10, Try.ntmps10
  go_wp2_with (first | (go_at_call 15; refine (rin_any _ _ _).mono ?_; rintro e w' ⟨rfl, rfl⟩) | (go_at_call 14; refine (rwrap_any _ _ _).mono ?_; rintro e w' ⟨rfl, rfl⟩))
  go_ret2
  exact ⟨rfl, rfl⟩

set_option maxHeartbeats 4000000 in
theorem rdo_14_5 (a b : Int) (w : World) (ha : inF 5 a = true) (hb : inF 5 b = true) :
    Calls Try.prog 10 #[.int .i64 14, .int .i64 5, .int .i64 a, .int .i64 b] w fun e w' => e = .returned (.tuple #[.int .i64 (doV 14 5 a b), .int .i64 (doU 14 5 a b)]) ∧ w = w' := by
  have htk := tk_low (k := 14) (.inl rfl) (by omega) ha hb
  have ha' := in5 ha
  have hb' := in5 hb
  have hx : exV 14 a b = bits .or .i64 a b := by unfold exV; simp
  have hd : bits .or .i64 a b = bits .or .i32 a b := bits_32 .or (by simp) ha' hb'
  have hr := bits_bd .or a b
  rw [← hd] at hr; clear hd
  have hi := in5' hr
  have ho : ovF 14 a b = !inF 5 (bits .or .i64 a b) := by rw [ov_plain (by omega), hx]
  obtain ⟨e0, e1⟩ := five_yes htk (by omega) (by omega) (by rw [ho, hi]; rfl) (v := bits .or .i64 a b) (by rw [hx]; exact wrap5 hr)
  rw [e0, e1]; clear e0 e1 hx htk ho
  go_enter Try.func10, Try.ntmps10
  go_wp2_with (first | (go_at_call 15; refine (rin_any _ _ _).mono ?_; rintro e w' ⟨rfl, rfl⟩) | (go_at_call 14; refine (rwrap_any _ _ _).mono ?_; rintro e w' ⟨rfl, rfl⟩))
  go_ret2
  exact ⟨rfl, rfl⟩

set_option maxHeartbeats 4000000 in
theorem rdo_14_6 (a b : Int) (w : World) (ha : inF 6 a = true) (hb : inF 6 b = true) :
    Calls Try.prog 10 #[.int .i64 14, .int .i64 6, .int .i64 a, .int .i64 b] w fun e w' => e = .returned (.tuple #[.int .i64 (doV 14 6 a b), .int .i64 (doU 14 6 a b)]) ∧ w = w' := by
  have htk := tk_low (k := 14) (.inr rfl) (by omega) ha hb
  have ha' := in6 ha
  have hb' := in6 hb
  have hx : exV 14 a b = bits .or .i64 a b := by unfold exV; simp
  have hd : bits .or .i64 a b = bits .or .u32 a b := bits_u .or (by simp) ha' hb'
  have hr := bits_ubd .or a b
  rw [← hd] at hr; clear hd
  obtain ⟨e0, e1⟩ := six_yes htk (by omega) (by omega) (v := wrapF 6 (bits .or .i64 a b)) (by rw [hx])
  rw [e0, e1]; clear e0 e1 hx htk
  go_enter Try.func10, Try.ntmps10
  go_wp2_with (first | (go_at_call 15; refine (rin_any _ _ _).mono ?_; rintro e w' ⟨rfl, rfl⟩) | (go_at_call 14; refine (rwrap_any _ _ _).mono ?_; rintro e w' ⟨rfl, rfl⟩))
  go_ret2
  exact ⟨rfl, rfl⟩

set_option maxHeartbeats 4000000 in
theorem rdo_15_5 (a b : Int) (w : World) (ha : inF 5 a = true) (hb : inF 5 b = true) :
    Calls Try.prog 10 #[.int .i64 15, .int .i64 5, .int .i64 a, .int .i64 b] w fun e w' => e = .returned (.tuple #[.int .i64 (doV 15 5 a b), .int .i64 (doU 15 5 a b)]) ∧ w = w' := by
  have htk := tk_low (k := 15) (.inl rfl) (by omega) ha hb
  have ha' := in5 ha
  have hb' := in5 hb
  have hx : exV 15 a b = bits .xor .i64 a b := by unfold exV; simp
  have hd : bits .xor .i64 a b = bits .xor .i32 a b := bits_32 .xor (by simp) ha' hb'
  have hr := bits_bd .xor a b
  rw [← hd] at hr; clear hd
  have hi := in5' hr
  have ho : ovF 15 a b = !inF 5 (bits .xor .i64 a b) := by rw [ov_plain (by omega), hx]
  obtain ⟨e0, e1⟩ := five_yes htk (by omega) (by omega) (by rw [ho, hi]; rfl) (v := bits .xor .i64 a b) (by rw [hx]; exact wrap5 hr)
  rw [e0, e1]; clear e0 e1 hx htk ho
  go_enter Try.func10, Try.ntmps10
  go_wp2_with (first | (go_at_call 15; refine (rin_any _ _ _).mono ?_; rintro e w' ⟨rfl, rfl⟩) | (go_at_call 14; refine (rwrap_any _ _ _).mono ?_; rintro e w' ⟨rfl, rfl⟩))
  go_ret2
  exact ⟨rfl, rfl⟩

set_option maxHeartbeats 4000000 in
theorem rdo_15_6 (a b : Int) (w : World) (ha : inF 6 a = true) (hb : inF 6 b = true) :
    Calls Try.prog 10 #[.int .i64 15, .int .i64 6, .int .i64 a, .int .i64 b] w fun e w' => e = .returned (.tuple #[.int .i64 (doV 15 6 a b), .int .i64 (doU 15 6 a b)]) ∧ w = w' := by
  have htk := tk_low (k := 15) (.inr rfl) (by omega) ha hb
  have ha' := in6 ha
  have hb' := in6 hb
  have hx : exV 15 a b = bits .xor .i64 a b := by unfold exV; simp
  have hd : bits .xor .i64 a b = bits .xor .u32 a b := bits_u .xor (by simp) ha' hb'
  have hr := bits_ubd .xor a b
  rw [← hd] at hr; clear hd
  obtain ⟨e0, e1⟩ := six_yes htk (by omega) (by omega) (v := wrapF 6 (bits .xor .i64 a b)) (by rw [hx])
  rw [e0, e1]; clear e0 e1 hx htk
  go_enter Try.func10, Try.ntmps10
  go_wp2_with (first | (go_at_call 15; refine (rin_any _ _ _).mono ?_; rintro e w' ⟨rfl, rfl⟩) | (go_at_call 14; refine (rwrap_any _ _ _).mono ?_; rintro e w' ⟨rfl, rfl⟩))
  go_ret2
  exact ⟨rfl, rfl⟩

set_option maxHeartbeats 4000000 in
theorem rdo_sh (k t a b : Int) (w : World) (ht : t = 5 ∨ t = 6) (hk : k = 16 ∨ k = 17) (ha : inF t a = true) :
    Calls Try.prog 10 #[.int .i64 k, .int .i64 t, .int .i64 a, .int .i64 b] w fun e w' => e = .returned (.tuple #[.int .i64 (doV k t a b), .int .i64 (doU k t a b)]) ∧ w = w' := by
  have hM := fun w => moved_any k t a b w ht hk ha
  rcases ht with rfl | rfl <;> rcases hk with rfl | rfl
  all_goals
    go_enter Try.func10, Try.ntmps10
    go_wp2_with (first | (go_at_call 15; refine (rin_any _ _ _).mono ?_; rintro e w' ⟨rfl, rfl⟩) | (go_at_call 14; refine (rwrap_any _ _ _).mono ?_; rintro e w' ⟨rfl, rfl⟩) | (go_at_call 20; refine (hM _).mono ?_; rintro e w' ⟨rfl, rfl⟩))
    go_ret2
    exact ⟨rfl, rfl⟩

/-- No numbers of the type, or no type that is reckoned with. -/
theorem rdo_no (k t a b : Int) (w : World) (h : (¬ (t = 5 ∨ t = 6)) ∨ inF t a = false ∨ (¬ (k = 16 ∨ k = 17) ∧ inF t b = false)) :
    Calls Try.prog 10 #[.int .i64 k, .int .i64 t, .int .i64 a, .int .i64 b] w fun e w' => e = .returned (.tuple #[.int .i64 (doV k t a b), .int .i64 (doU k t a b)]) ∧ w = w' := by
  have htk : tkF k t a b = false := by
    unfold tkF
    rcases h with h | h | ⟨h, h'⟩
    · simp [h]
    · simp [h]
    · rw [h']; simp; omega
  obtain ⟨e0, e1⟩ := do_no htk
  rw [e0, e1]; clear e0 e1 htk
  by_cases ht : t = 5 ∨ t = 6
  case' neg =>
    have h5 : (t == 5) = false := by simp only [beq_eq_false_iff_ne]; omega
    have h6 : (t == 6) = false := by simp only [beq_eq_false_iff_ne]; omega
    have h5' : (t != 5) = true := by simp only [bne_iff_ne]; omega
    have h6' : (t != 6) = true := by simp only [bne_iff_ne]; omega
    clear h ht
    rcases (show k = 16 ∨ k = 17 ∨ (k ≠ 16 ∧ k ≠ 17) by omega) with rfl | rfl | ⟨h16, h17⟩
    case' inr.inr =>
      replace h16 : (k == 16) = false := by simpa using h16
      replace h17 : (k == 17) = false := by simpa using h17
  case' pos =>
    replace h := h.resolve_left (fun hh => hh ht)
    by_cases hk : k = 16 ∨ k = 17
    case' pos =>
      have ha : inF t a = false := by rcases h with h | h; exact h; exact absurd hk h.1
      clear h
      rcases ht with rfl | rfl <;> rcases hk with rfl | rfl
    case' neg =>
      have h16 : (k == 16) = false := by simp only [beq_eq_false_iff_ne]; omega
      have h17 : (k == 17) = false := by simp only [beq_eq_false_iff_ne]; omega
      replace h : inF t a = false ∨ (inF t a = true ∧ inF t b = false) := by
        cases hh : inF t a
        · exact .inl rfl
        · rw [hh] at h; simp at h; exact .inr ⟨rfl, h.2⟩
      clear hk
      rcases ht with rfl | rfl <;> rcases h with h | ⟨h, h'⟩
  all_goals
    go_enter Try.func10, Try.ntmps10
    go_wp2_with (first | (go_at_call 15; refine (rin_any _ _ _).mono ?_; rintro e w' ⟨rfl, rfl⟩) | (go_at_call 14; refine (rwrap_any _ _ _).mono ?_; rintro e w' ⟨rfl, rfl⟩))
    go_ret2
    exact ⟨rfl, rfl⟩

set_option maxHeartbeats 4000000 in
theorem rdo_none (k t a b : Int) (w : World) (ht : t = 5 ∨ t = 6) (hk : NoK k) (ha : inF t a = true) (hb : inF t b = true) :
    Calls Try.prog 10 #[.int .i64 k, .int .i64 t, .int .i64 a, .int .i64 b] w fun e w' => e = .returned (.tuple #[.int .i64 (doV k t a b), .int .i64 (doU k t a b)]) ∧ w = w' := by
  have htk : tkF k t a b = false := by
    unfold NoK at hk; simp only [beq_eq_false_iff_ne] at hk
    unfold tkF; simp; intros; omega
  obtain ⟨e0, e1⟩ := do_no htk
  rw [e0, e1]; clear e0 e1 htk
  obtain ⟨k1, k2, k3, k4, k5, k6, k7, k8, k9, k10, k11, k12⟩ := hk
  have w6 : wrapF 6 0 = 0 := by decide
  have i5 : inF 5 0 = true := by decide
  rcases ht with rfl | rfl
  all_goals
    go_enter Try.func10, Try.ntmps10
    go_wp2_with (first | (go_at_call 15; refine (rin_any _ _ _).mono ?_; rintro e w' ⟨rfl, rfl⟩) | (go_at_call 14; refine (rwrap_any _ _ _).mono ?_; rintro e w' ⟨rfl, rfl⟩))
    go_ret2
    exact ⟨rfl, rfl⟩

theorem rdo_any (k t a b : Int) (w : World) :
    Calls Try.prog 10 #[.int .i64 k, .int .i64 t, .int .i64 a, .int .i64 b] w fun e w' => e = .returned (.tuple #[.int .i64 (doV k t a b), .int .i64 (doU k t a b)]) ∧ w = w' := by
  by_cases hno : (¬ (t = 5 ∨ t = 6)) ∨ inF t a = false ∨ (¬ (k = 16 ∨ k = 17) ∧ inF t b = false)
  · exact rdo_no k t a b w hno
  have ht : t = 5 ∨ t = 6 := by by_cases h : t = 5 ∨ t = 6; exact h; exact absurd (.inl h) hno
  have ha : inF t a = true := by cases h : inF t a; exact absurd (.inr (.inl h)) hno; rfl
  by_cases hk : k = 16 ∨ k = 17
  · exact rdo_sh k t a b w ht hk ha
  have hb : inF t b = true := by cases h : inF t b; exact absurd (.inr (.inr ⟨hk, h⟩)) hno; rfl
  clear hno
  rcases kinds k with rfl | rfl | rfl | rfl | rfl | rfl | rfl | rfl | rfl | rfl | rfl | rfl | ⟨hh, -⟩
  · rcases ht with rfl | rfl; exact rdo_6_5 a b w ha hb; exact rdo_6_6 a b w ha hb
  · rcases ht with rfl | rfl; exact rdo_7_5 a b w ha hb; exact rdo_7_6 a b w ha hb
  · rcases ht with rfl | rfl; exact rdo_8_5 a b w ha hb; exact rdo_8_6 a b w ha hb
  · rcases ht with rfl | rfl; exact rdo_9_5 a b w ha hb; exact rdo_9_6 a b w ha hb
  · rcases ht with rfl | rfl; exact rdo_10_5 a b w ha hb; exact rdo_10_6 a b w ha hb
  · rcases ht with rfl | rfl; exact rdo_11_5 a b w ha hb; exact rdo_11_6 a b w ha hb
  · rcases ht with rfl | rfl; exact rdo_12_5 a b w ha hb; exact rdo_12_6 a b w ha hb
  · rcases ht with rfl | rfl; exact rdo_13_5 a b w ha hb; exact rdo_13_6 a b w ha hb
  · rcases ht with rfl | rfl; exact rdo_14_5 a b w ha hb; exact rdo_14_6 a b w ha hb
  · rcases ht with rfl | rfl; exact rdo_15_5 a b w ha hb; exact rdo_15_6 a b w ha hb
  · exact absurd (.inl rfl) hk
  · exact absurd (.inr rfl) hk
  · exact rdo_none k t a b w ht hh ha hb
end Go.Proofs.Ytkdojloabigfiaa.Typ
