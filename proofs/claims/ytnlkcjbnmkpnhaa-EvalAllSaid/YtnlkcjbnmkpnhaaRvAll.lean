/-
  Contracts of the document's Up and Join, for a seat without the rows of layer 1. No condition.
  Contracts of the document's answer for arith.Do (moved, Do): each returns what a plain function gives, and leaves the world alone. Condition of moved: a shift of a number of its type.
  The document's answer for layer 8, what it calls: Mixed, Rel, last, as plain functions and as contracts.
  The document's answer for layer 8: elem, out of what its index has.
  The document's answer for layer 8: node, out of what its kids have.
  The document's answer for layer 8: value, Value: what the node at a place has (valA), of any list whose kids stand ahead.
  Slices of structs of integers that came in: what the walk is told of them. No program is named here.
-/
import Derived.Test.YtnlkcjbnmkpnhaaTypR
import Derived.Test.YtnlkcjbnmkpnhaaAriT
import Derived.Test.YtnlkcjbnmkpnhaaAriQ
import Derived.Test.YtnlkcjbnmkpnhaaEvP
import Derived.Test.YtnlkcjbnmkpnhaaMemG
import Derived.Test.YtnlkcjbnmkpnhaaEvJ
import Derived.WalkKit
import Derived.ProofKit
import Derived.OpenShut
import Derived.Deep.Slices
import Derived.ChangeOld
import Derived.Below
namespace Go.Proofs.Ytnlkcjbnmkpnhaa.Typ
open Go.RowKit

theorem rup_any (t : Int) (w : World) : Calls Try.prog 83 #[.int .i64 t] w fun e w' => e = .returned (.int .i64 (upF t)) ∧ w = w' := by
  rcases eight t with rfl | rfl | rfl | rfl | rfl | rfl | ⟨hn, hlt⟩ | ⟨hn, hlt⟩
  case' inr.inr.inr.inr.inr.inr.inl =>
    obtain ⟨-, -, -, -, e0, -, -, -⟩ := none_of hn
    obtain ⟨h1, h2, h3, h4, h5, h6⟩ := hn
    rw [e0]; clear e0
  case' inr.inr.inr.inr.inr.inr.inr =>
    obtain ⟨-, -, -, -, e0, -, -, -⟩ := none_of hn
    obtain ⟨h1, h2, h3, h4, h5, h6⟩ := hn
    rw [e0]; clear e0
  all_goals
    go_enter Try.func83, Try.ntmps83
    go_wp2
    go_ret
    exact ⟨rfl, rfl⟩

theorem bits_isT (t : Int) : (isT t = true ∧ (bitsF t == 0) = false) ∨ (isT t = false ∧ (bitsF t == 0) = true) := by
  rcases eight t with rfl | rfl | rfl | rfl | rfl | rfl | ⟨hn, hlt⟩ | ⟨hn, hlt⟩
  all_goals first | (left; decide) | (right; exact ⟨(none_of hn).2.2.2.1, by rw [(none_of hn).1]; decide⟩)

theorem rjoin_any (a b : Int) (w : World) : Calls Try.prog 84 #[.int .i64 a, .int .i64 b] w fun e w' => e = .returned (.int .i64 (joinF a b)) ∧ w = w' := by
  rcases bits_isT a with ⟨ha, ha'⟩ | ⟨ha, ha'⟩
  · rcases bits_isT b with ⟨hb, hb'⟩ | ⟨hb, hb'⟩
    · have e0 : joinF a b = if a = 6 ∨ b = 6 then 6 else 5 := by unfold joinF; simp [ha, hb]
      rw [e0]; clear e0 ha hb
      by_cases h6 : a = 6
      · rw [if_pos (.inl h6)]
        have h6' : (a == 6) = true := by simpa using h6
        clear h6
        go_enter Try.func84, Try.ntmps84
        go_wp2_with (first | (go_at_call 98; refine (rbits_any _ _).mono ?_; rintro e w' ⟨rfl, rfl⟩))
        go_ret
        exact ⟨rfl, rfl⟩
      · have h6' : (a == 6) = false := by simpa using h6
        by_cases g6 : b = 6
        · rw [if_pos (.inr g6)]
          have g6' : (b == 6) = true := by simpa using g6
          clear h6 g6
          go_enter Try.func84, Try.ntmps84
          go_wp2_with (first | (go_at_call 98; refine (rbits_any _ _).mono ?_; rintro e w' ⟨rfl, rfl⟩))
          go_ret
          exact ⟨rfl, rfl⟩
        · rw [if_neg (by simp [h6, g6])]
          have g6' : (b == 6) = false := by simpa using g6
          clear h6 g6
          go_enter Try.func84, Try.ntmps84
          go_wp2_with (first | (go_at_call 98; refine (rbits_any _ _).mono ?_; rintro e w' ⟨rfl, rfl⟩))
          go_ret
          exact ⟨rfl, rfl⟩
    · have e0 := join_none (a := a) (b := b) (.inr hb)
      rw [e0]; clear e0 ha hb
      go_enter Try.func84, Try.ntmps84
      go_wp2_with (first | (go_at_call 98; refine (rbits_any _ _).mono ?_; rintro e w' ⟨rfl, rfl⟩))
      go_ret
      exact ⟨rfl, rfl⟩
  · have e0 := join_none (a := a) (b := b) (.inl ha)
    rw [e0]; clear e0 ha
    go_enter Try.func84, Try.ntmps84
    go_wp2_with (first | (go_at_call 98; refine (rbits_any _ _).mono ?_; rintro e w' ⟨rfl, rfl⟩))
    go_ret
    exact ⟨rfl, rfl⟩

end Go.Proofs.Ytnlkcjbnmkpnhaa.Typ
namespace Go.Proofs.Ytnlkcjbnmkpnhaa.Typ
open Go.RowKit

set_option maxHeartbeats 4000000 in
theorem moved_any (k t a b : Int) (w : World) (ht : t = 5 ∨ t = 6) (hk : k = 16 ∨ k = 17) (ha : inF t a = true) :
    Calls Try.prog 86 #[.int .i64 k, .int .i64 t, .int .i64 a, .int .i64 b] w fun e w' => e = .returned (.tuple #[.int .i64 (doV k t a b), .int .i64 (doU k t a b)]) ∧ w = w' := by
  have htk := tk_sh (b := b) ht hk ha
  by_cases hb : b < 0 ∨ 31 < b
  · have hu := ud_sh (t := t) (a := a) hk hb
    obtain ⟨e0, e1⟩ := do_bad htk (by rw [hu]; decide)
    rw [e0, e1, hu]; clear e0 e1 hu htk hk ha ht
    rcases hb with hb | hb
    all_goals
      go_enter Try.func86, Try.ntmps86
      go_wp2
      go_ret2
      exact ⟨rfl, rfl⟩
  have hb' : 0 ≤ b ∧ b ≤ 31 := by omega
  clear hb
  have hw := wide ht ha
  have hq := shl_bd (a := a) (n := b.toNat) hw (by omega)
  rcases hk with rfl | rfl
  · rcases ht with rfl | rfl
    · have h5 := in5 ha
      have ho : ovF 16 a b = (decide (a < 0) || !inF 5 (a * 2 ^ b.toNat)) := by unfold ovF exV; simp
      by_cases hn : a < 0
      · obtain ⟨e0, e1⟩ := five_no htk (by omega) (by omega) (by rw [ho]; simp [hn])
        rw [e0, e1]; clear e0 e1 ho htk ha
        go_enter Try.func86, Try.ntmps86
        go_wp2
        go_ret2
        exact ⟨rfl, rfl⟩
      · cases hi : inF 5 (a * 2 ^ b.toNat)
        · obtain ⟨e0, e1⟩ := five_no htk (by omega) (by omega) (by rw [ho, hi]; simp)
          rw [e0, e1]; clear e0 e1 ho htk ha
          go_enter Try.func86, Try.ntmps86
          go_wp2_with (first | (go_at_call 85; refine (rin_any _ _ _).mono ?_; rintro e w' ⟨rfl, rfl⟩))
          go_ret2
          exact ⟨rfl, rfl⟩
        · have h5' := in5 hi
          obtain ⟨e0, e1⟩ := five_yes htk (by omega) (by omega) (by rw [ho, hi]; simp [hn]) (v := a * 2 ^ b.toNat) (by have : exV 16 a b = a * 2 ^ b.toNat := by unfold exV; simp
                                                                                                                       rw [this]; exact wrap5 h5')
          rw [e0, e1]; clear e0 e1 ho htk ha
          go_enter Try.func86, Try.ntmps86
          go_wp2_with (first | (go_at_call 85; refine (rin_any _ _ _).mono ?_; rintro e w' ⟨rfl, rfl⟩))
          go_ret2
          exact ⟨rfl, rfl⟩
    · have h5 := in6 ha
      obtain ⟨e0, e1⟩ := six_yes htk (by omega) (by omega) (v := wrapF 6 (a * 2 ^ b.toNat)) (by unfold exV; simp)
      rw [e0, e1]; clear e0 e1 htk ha
      go_enter Try.func86, Try.ntmps86
      go_wp2_with (first | (go_at_call 42; refine (rwrap_any _ _ _).mono ?_; rintro e w' ⟨rfl, rfl⟩))
      go_ret2
      exact ⟨rfl, rfl⟩
  · rcases ht with rfl | rfl
    · have h5 := in5 ha
      have hr := shr_bd (m := -2147483648) (n' := 2147483647) (n := b.toNat) (by omega) (by omega) h5 (by omega)
      have hx : exV 17 a b = a / 2 ^ b.toNat := by unfold exV; simp
      obtain ⟨e0, e1⟩ := five_yes htk (by omega) (by omega) (by rw [ov_plain (by omega), hx, in5' hr]; rfl) (v := a / 2 ^ b.toNat) (by rw [hx]; exact wrap5 hr)
      rw [e0, e1]; clear e0 e1 htk ha hx
      go_enter Try.func86, Try.ntmps86
      go_wp2
      go_ret2
      exact ⟨rfl, rfl⟩
    · have h5 := in6 ha
      have hr := shr_bd (m := 0) (n' := 4294967295) (n := b.toNat) (by omega) (by omega) h5 (by omega)
      have hx : exV 17 a b = a / 2 ^ b.toNat := by unfold exV; simp
      obtain ⟨e0, e1⟩ := six_yes htk (by omega) (by omega) (v := a / 2 ^ b.toNat) (by rw [hx]; exact wrap6 hr)
      rw [e0, e1]; clear e0 e1 htk ha hx
      go_enter Try.func86, Try.ntmps86
      go_wp2
      go_ret2
      exact ⟨rfl, rfl⟩


set_option maxHeartbeats 4000000 in
theorem rdo_6_5 (a b : Int) (w : World) (ha : inF 5 a = true) (hb : inF 5 b = true) :
    Calls Try.prog 67 #[.int .i64 6, .int .i64 5, .int .i64 a, .int .i64 b] w fun e w' => e = .returned (.tuple #[.int .i64 (doV 6 5 a b), .int .i64 (doU 6 5 a b)]) ∧ w = w' := by
  have htk := tk_low (k := 6) (.inl rfl) (by omega) ha hb
  have ha' := in5 ha
  have hb' := in5 hb
  have hx : exV 6 a b = -a := by unfold exV; simp
  have ho : ovF 6 a b = !inF 5 (-a) := by rw [ov_plain (by omega), hx]
  cases hi : inF 5 (-a)
  · obtain ⟨e0, e1⟩ := five_no htk (by omega) (by omega) (by rw [ho, hi]; rfl)
    rw [e0, e1]; clear e0 e1 hx htk ho
    go_enter Try.func67, Try.ntmps67
    go_wp2_with (first | (go_at_call 85; refine (rin_any _ _ _).mono ?_; rintro e w' ⟨rfl, rfl⟩) | (go_at_call 42; refine (rwrap_any _ _ _).mono ?_; rintro e w' ⟨rfl, rfl⟩))
    go_ret2
    exact ⟨rfl, rfl⟩
  · obtain ⟨e0, e1⟩ := five_yes htk (by omega) (by omega) (by rw [ho, hi]; rfl) (v := -a) (by rw [hx]; exact wrap5 (in5 hi))
    rw [e0, e1]; clear e0 e1 hx htk ho
    go_enter Try.func67, Try.ntmps67
    go_wp2_with (first | (go_at_call 85; refine (rin_any _ _ _).mono ?_; rintro e w' ⟨rfl, rfl⟩) | (go_at_call 42; refine (rwrap_any _ _ _).mono ?_; rintro e w' ⟨rfl, rfl⟩))
    go_ret2
    exact ⟨rfl, rfl⟩

set_option maxHeartbeats 4000000 in
theorem rdo_6_6 (a b : Int) (w : World) (ha : inF 6 a = true) (hb : inF 6 b = true) :
    Calls Try.prog 67 #[.int .i64 6, .int .i64 6, .int .i64 a, .int .i64 b] w fun e w' => e = .returned (.tuple #[.int .i64 (doV 6 6 a b), .int .i64 (doU 6 6 a b)]) ∧ w = w' := by
  have htk := tk_low (k := 6) (.inr rfl) (by omega) ha hb
  have ha' := in6 ha
  have hb' := in6 hb
  have hx : exV 6 a b = -a := by unfold exV; simp
  obtain ⟨e0, e1⟩ := six_yes htk (by omega) (by omega) (v := wrapF 6 (-a)) (by rw [hx])
  rw [e0, e1]; clear e0 e1 hx htk
  go_enter Try.func67, Try.ntmps67
  go_wp2_with (first | (go_at_call 85; refine (rin_any _ _ _).mono ?_; rintro e w' ⟨rfl, rfl⟩) | (go_at_call 42; refine (rwrap_any _ _ _).mono ?_; rintro e w' ⟨rfl, rfl⟩))
  go_ret2
  exact ⟨rfl, rfl⟩

set_option maxHeartbeats 4000000 in
theorem rdo_7_5 (a b : Int) (w : World) (ha : inF 5 a = true) (hb : inF 5 b = true) :
    Calls Try.prog 67 #[.int .i64 7, .int .i64 5, .int .i64 a, .int .i64 b] w fun e w' => e = .returned (.tuple #[.int .i64 (doV 7 5 a b), .int .i64 (doU 7 5 a b)]) ∧ w = w' := by
  have htk := tk_low (k := 7) (.inl rfl) (by omega) ha hb
  have ha' := in5 ha
  have hb' := in5 hb
  have hc := com_64' a (by omega)
  have hx : exV 7 a b = -1 - a := by unfold exV; simp
  have hi := in5' (v := -1 - a) (by omega)
  have hw := wrap5 (v := -1 - a) (by omega)
  have hi' : inF 5 (wrapF 5 (bits .xor .i64 (if IntKind.i64.signed = true then -1 else 9223372036854775807) a)) = true := wrap_in5 _
  have ho : ovF 7 a b = !inF 5 (-1 - a) := by rw [ov_plain (by omega), hx]
  obtain ⟨e0, e1⟩ := five_yes htk (by omega) (by omega) (by rw [ho, hi]; rfl) (v := -1 - a) (by rw [hx]; exact hw)
  rw [e0, e1]; clear e0 e1 hx htk ho
  go_enter Try.func67, Try.ntmps67
  go_wp2_with (first | (go_at_call 85; refine (rin_any _ _ _).mono ?_; rintro e w' ⟨rfl, rfl⟩) | (go_at_call 42; refine (rwrap_any _ _ _).mono ?_; rintro e w' ⟨rfl, rfl⟩))
  go_ret2
  exact ⟨rfl, rfl⟩

set_option maxHeartbeats 4000000 in
theorem rdo_7_6 (a b : Int) (w : World) (ha : inF 6 a = true) (hb : inF 6 b = true) :
    Calls Try.prog 67 #[.int .i64 7, .int .i64 6, .int .i64 a, .int .i64 b] w fun e w' => e = .returned (.tuple #[.int .i64 (doV 7 6 a b), .int .i64 (doU 7 6 a b)]) ∧ w = w' := by
  have htk := tk_low (k := 7) (.inr rfl) (by omega) ha hb
  have ha' := in6 ha
  have hb' := in6 hb
  have hc := com_64' a (by omega)
  have hx : exV 7 a b = -1 - a := by unfold exV; simp
  obtain ⟨e0, e1⟩ := six_yes htk (by omega) (by omega) (v := wrapF 6 (-1 - a)) (by rw [hx])
  rw [e0, e1]; clear e0 e1 hx htk
  go_enter Try.func67, Try.ntmps67
  go_wp2_with (first | (go_at_call 85; refine (rin_any _ _ _).mono ?_; rintro e w' ⟨rfl, rfl⟩) | (go_at_call 42; refine (rwrap_any _ _ _).mono ?_; rintro e w' ⟨rfl, rfl⟩))
  go_ret2
  exact ⟨ret_two (by unfold wrapF; simp) rfl, rfl⟩

set_option maxHeartbeats 4000000 in
theorem rdo_8_5 (a b : Int) (w : World) (ha : inF 5 a = true) (hb : inF 5 b = true) :
    Calls Try.prog 67 #[.int .i64 8, .int .i64 5, .int .i64 a, .int .i64 b] w fun e w' => e = .returned (.tuple #[.int .i64 (doV 8 5 a b), .int .i64 (doU 8 5 a b)]) ∧ w = w' := by
  have htk := tk_low (k := 8) (.inl rfl) (by omega) ha hb
  have ha' := in5 ha
  have hb' := in5 hb
  have hx : exV 8 a b = a + b := by unfold exV; simp
  have ho : ovF 8 a b = !inF 5 (a + b) := by rw [ov_plain (by omega), hx]
  cases hi : inF 5 (a + b)
  · obtain ⟨e0, e1⟩ := five_no htk (by omega) (by omega) (by rw [ho, hi]; rfl)
    rw [e0, e1]; clear e0 e1 hx htk ho
    go_enter Try.func67, Try.ntmps67
    go_wp2_with (first | (go_at_call 85; refine (rin_any _ _ _).mono ?_; rintro e w' ⟨rfl, rfl⟩) | (go_at_call 42; refine (rwrap_any _ _ _).mono ?_; rintro e w' ⟨rfl, rfl⟩))
    go_ret2
    exact ⟨rfl, rfl⟩
  · obtain ⟨e0, e1⟩ := five_yes htk (by omega) (by omega) (by rw [ho, hi]; rfl) (v := a + b) (by rw [hx]; exact wrap5 (in5 hi))
    rw [e0, e1]; clear e0 e1 hx htk ho
    go_enter Try.func67, Try.ntmps67
    go_wp2_with (first | (go_at_call 85; refine (rin_any _ _ _).mono ?_; rintro e w' ⟨rfl, rfl⟩) | (go_at_call 42; refine (rwrap_any _ _ _).mono ?_; rintro e w' ⟨rfl, rfl⟩))
    go_ret2
    exact ⟨rfl, rfl⟩

set_option maxHeartbeats 4000000 in
theorem rdo_8_6 (a b : Int) (w : World) (ha : inF 6 a = true) (hb : inF 6 b = true) :
    Calls Try.prog 67 #[.int .i64 8, .int .i64 6, .int .i64 a, .int .i64 b] w fun e w' => e = .returned (.tuple #[.int .i64 (doV 8 6 a b), .int .i64 (doU 8 6 a b)]) ∧ w = w' := by
  have htk := tk_low (k := 8) (.inr rfl) (by omega) ha hb
  have ha' := in6 ha
  have hb' := in6 hb
  have hx : exV 8 a b = a + b := by unfold exV; simp
  obtain ⟨e0, e1⟩ := six_yes htk (by omega) (by omega) (v := wrapF 6 (a + b)) (by rw [hx])
  rw [e0, e1]; clear e0 e1 hx htk
  go_enter Try.func67, Try.ntmps67
  go_wp2_with (first | (go_at_call 85; refine (rin_any _ _ _).mono ?_; rintro e w' ⟨rfl, rfl⟩) | (go_at_call 42; refine (rwrap_any _ _ _).mono ?_; rintro e w' ⟨rfl, rfl⟩))
  go_ret2
  exact ⟨rfl, rfl⟩

set_option maxHeartbeats 4000000 in
theorem rdo_9_5 (a b : Int) (w : World) (ha : inF 5 a = true) (hb : inF 5 b = true) :
    Calls Try.prog 67 #[.int .i64 9, .int .i64 5, .int .i64 a, .int .i64 b] w fun e w' => e = .returned (.tuple #[.int .i64 (doV 9 5 a b), .int .i64 (doU 9 5 a b)]) ∧ w = w' := by
  have htk := tk_low (k := 9) (.inl rfl) (by omega) ha hb
  have ha' := in5 ha
  have hb' := in5 hb
  have hx : exV 9 a b = a - b := by unfold exV; simp
  have ho : ovF 9 a b = !inF 5 (a - b) := by rw [ov_plain (by omega), hx]
  cases hi : inF 5 (a - b)
  · obtain ⟨e0, e1⟩ := five_no htk (by omega) (by omega) (by rw [ho, hi]; rfl)
    rw [e0, e1]; clear e0 e1 hx htk ho
    go_enter Try.func67, Try.ntmps67
    go_wp2_with (first | (go_at_call 85; refine (rin_any _ _ _).mono ?_; rintro e w' ⟨rfl, rfl⟩) | (go_at_call 42; refine (rwrap_any _ _ _).mono ?_; rintro e w' ⟨rfl, rfl⟩))
    go_ret2
    exact ⟨rfl, rfl⟩
  · obtain ⟨e0, e1⟩ := five_yes htk (by omega) (by omega) (by rw [ho, hi]; rfl) (v := a - b) (by rw [hx]; exact wrap5 (in5 hi))
    rw [e0, e1]; clear e0 e1 hx htk ho
    go_enter Try.func67, Try.ntmps67
    go_wp2_with (first | (go_at_call 85; refine (rin_any _ _ _).mono ?_; rintro e w' ⟨rfl, rfl⟩) | (go_at_call 42; refine (rwrap_any _ _ _).mono ?_; rintro e w' ⟨rfl, rfl⟩))
    go_ret2
    exact ⟨rfl, rfl⟩

set_option maxHeartbeats 4000000 in
theorem rdo_9_6 (a b : Int) (w : World) (ha : inF 6 a = true) (hb : inF 6 b = true) :
    Calls Try.prog 67 #[.int .i64 9, .int .i64 6, .int .i64 a, .int .i64 b] w fun e w' => e = .returned (.tuple #[.int .i64 (doV 9 6 a b), .int .i64 (doU 9 6 a b)]) ∧ w = w' := by
  have htk := tk_low (k := 9) (.inr rfl) (by omega) ha hb
  have ha' := in6 ha
  have hb' := in6 hb
  have hx : exV 9 a b = a - b := by unfold exV; simp
  obtain ⟨e0, e1⟩ := six_yes htk (by omega) (by omega) (v := wrapF 6 (a - b)) (by rw [hx])
  rw [e0, e1]; clear e0 e1 hx htk
  go_enter Try.func67, Try.ntmps67
  go_wp2_with (first | (go_at_call 85; refine (rin_any _ _ _).mono ?_; rintro e w' ⟨rfl, rfl⟩) | (go_at_call 42; refine (rwrap_any _ _ _).mono ?_; rintro e w' ⟨rfl, rfl⟩))
  go_ret2
  exact ⟨rfl, rfl⟩

set_option maxHeartbeats 4000000 in
theorem rdo_10_5 (a b : Int) (w : World) (ha : inF 5 a = true) (hb : inF 5 b = true) :
    Calls Try.prog 67 #[.int .i64 10, .int .i64 5, .int .i64 a, .int .i64 b] w fun e w' => e = .returned (.tuple #[.int .i64 (doV 10 5 a b), .int .i64 (doU 10 5 a b)]) ∧ w = w' := by
  have htk := tk_low (k := 10) (.inl rfl) (by omega) ha hb
  have ha' := in5 ha
  have hb' := in5 hb
  have hm := mul_32 ha' hb'
  have hx : exV 10 a b = a * b := by unfold exV; simp; exact wrap64_in (by omega)
  have ho : ovF 10 a b = !inF 5 (a * b) := by rw [ov_plain (by omega), hx]
  cases hi : inF 5 (a * b)
  · obtain ⟨e0, e1⟩ := five_no htk (by omega) (by omega) (by rw [ho, hi]; rfl)
    rw [e0, e1]; clear e0 e1 hx htk ho
    go_enter Try.func67, Try.ntmps67
    go_wp2_with (first | (go_at_call 85; refine (rin_any _ _ _).mono ?_; rintro e w' ⟨rfl, rfl⟩) | (go_at_call 42; refine (rwrap_any _ _ _).mono ?_; rintro e w' ⟨rfl, rfl⟩))
    go_ret2
    exact ⟨rfl, rfl⟩
  · obtain ⟨e0, e1⟩ := five_yes htk (by omega) (by omega) (by rw [ho, hi]; rfl) (v := a * b) (by rw [hx]; exact wrap5 (in5 hi))
    rw [e0, e1]; clear e0 e1 hx htk ho
    go_enter Try.func67, Try.ntmps67
    go_wp2_with (first | (go_at_call 85; refine (rin_any _ _ _).mono ?_; rintro e w' ⟨rfl, rfl⟩) | (go_at_call 42; refine (rwrap_any _ _ _).mono ?_; rintro e w' ⟨rfl, rfl⟩))
    go_ret2
    exact ⟨rfl, rfl⟩

set_option maxHeartbeats 4000000 in
theorem rdo_10_6 (a b : Int) (w : World) (ha : inF 6 a = true) (hb : inF 6 b = true) :
    Calls Try.prog 67 #[.int .i64 10, .int .i64 6, .int .i64 a, .int .i64 b] w fun e w' => e = .returned (.tuple #[.int .i64 (doV 10 6 a b), .int .i64 (doU 10 6 a b)]) ∧ w = w' := by
  have htk := tk_low (k := 10) (.inr rfl) (by omega) ha hb
  have ha' := in6 ha
  have hb' := in6 hb
  have hx : exV 10 a b = wrap64 (a * b) := by unfold exV; simp
  obtain ⟨e0, e1⟩ := six_yes htk (by omega) (by omega) (v := a * b % 4294967296) (by rw [hx]; exact mod_64_32 _)
  rw [e0, e1]; clear e0 e1 hx htk
  go_enter Try.func67, Try.ntmps67
  go_wp2_with (first | (go_at_call 85; refine (rin_any _ _ _).mono ?_; rintro e w' ⟨rfl, rfl⟩) | (go_at_call 42; refine (rwrap_any _ _ _).mono ?_; rintro e w' ⟨rfl, rfl⟩))
  go_ret2
  exact ⟨ret_two (by have hu : IntKind.u64.wrap (a * b) = (a * b) % 18446744073709551616 := by simp [IntKind.wrap, IntKind.bits, IntKind.signed]
                     rw [hu]; unfold wrapF wrap64; simp; omega) rfl, rfl⟩

set_option maxHeartbeats 4000000 in
theorem rdo_11_5 (a b : Int) (w : World) (ha : inF 5 a = true) (hb : inF 5 b = true) :
    Calls Try.prog 67 #[.int .i64 11, .int .i64 5, .int .i64 a, .int .i64 b] w fun e w' => e = .returned (.tuple #[.int .i64 (doV 11 5 a b), .int .i64 (doU 11 5 a b)]) ∧ w = w' := by
  have htk := tk_low (k := 11) (.inl rfl) (by omega) ha hb
  have ha' := in5 ha
  have hb' := in5 hb
  by_cases h0 : b = 0
  · subst h0
    have hu := ud_div (k := 11) (t := 5) (a := a) (by omega)
    obtain ⟨e0, e1⟩ := do_bad htk (by rw [hu]; decide)
    rw [e0, e1, hu]; clear e0 e1 hu htk
    go_enter Try.func67, Try.ntmps67
    go_wp2_with (first | (go_at_call 85; refine (rin_any _ _ _).mono ?_; rintro e w' ⟨rfl, rfl⟩) | (go_at_call 42; refine (rwrap_any _ _ _).mono ?_; rintro e w' ⟨rfl, rfl⟩))
    go_ret2
    exact ⟨rfl, rfl⟩
  have h0' : (b == 0) = false := by simpa using h0
  have hq := tdiv_ab (a := a) (b := b) (m := 2147483648) (by omega)
  have hx : exV 11 a b = a.tdiv b := by unfold exV; simp
  have ho : ovF 11 a b = !inF 5 (a.tdiv b) := by rw [ov_plain (by omega), hx]
  cases hi : inF 5 (a.tdiv b)
  · obtain ⟨e0, e1⟩ := five_no htk (fun _ => h0) (by omega) (by rw [ho, hi]; rfl)
    rw [e0, e1]; clear e0 e1 hx htk ho
    go_enter Try.func67, Try.ntmps67
    go_wp2_with (first | (go_at_call 85; refine (rin_any _ _ _).mono ?_; rintro e w' ⟨rfl, rfl⟩) | (go_at_call 42; refine (rwrap_any _ _ _).mono ?_; rintro e w' ⟨rfl, rfl⟩))
    go_ret2
    exact ⟨rfl, rfl⟩
  · obtain ⟨e0, e1⟩ := five_yes htk (fun _ => h0) (by omega) (by rw [ho, hi]; rfl) (v := a.tdiv b) (by rw [hx]; exact wrap5 (in5 hi))
    rw [e0, e1]; clear e0 e1 hx htk ho
    go_enter Try.func67, Try.ntmps67
    go_wp2_with (first | (go_at_call 85; refine (rin_any _ _ _).mono ?_; rintro e w' ⟨rfl, rfl⟩) | (go_at_call 42; refine (rwrap_any _ _ _).mono ?_; rintro e w' ⟨rfl, rfl⟩))
    go_ret2
    exact ⟨rfl, rfl⟩

set_option maxHeartbeats 4000000 in
theorem rdo_11_6 (a b : Int) (w : World) (ha : inF 6 a = true) (hb : inF 6 b = true) :
    Calls Try.prog 67 #[.int .i64 11, .int .i64 6, .int .i64 a, .int .i64 b] w fun e w' => e = .returned (.tuple #[.int .i64 (doV 11 6 a b), .int .i64 (doU 11 6 a b)]) ∧ w = w' := by
  have htk := tk_low (k := 11) (.inr rfl) (by omega) ha hb
  have ha' := in6 ha
  have hb' := in6 hb
  by_cases h0 : b = 0
  · subst h0
    have hu := ud_div (k := 11) (t := 6) (a := a) (by omega)
    obtain ⟨e0, e1⟩ := do_bad htk (by rw [hu]; decide)
    rw [e0, e1, hu]; clear e0 e1 hu htk
    go_enter Try.func67, Try.ntmps67
    go_wp2_with (first | (go_at_call 85; refine (rin_any _ _ _).mono ?_; rintro e w' ⟨rfl, rfl⟩) | (go_at_call 42; refine (rwrap_any _ _ _).mono ?_; rintro e w' ⟨rfl, rfl⟩))
    go_ret2
    exact ⟨rfl, rfl⟩
  have h0' : (b == 0) = false := by simpa using h0
  have hq := tdiv_ab (a := a) (b := b) (m := 4294967295) (by omega)
  have hx : exV 11 a b = a.tdiv b := by unfold exV; simp
  have hq' := Int.tdiv_nonneg ha'.1 hb'.1
  have hi := in6' (v := a.tdiv b) (by omega)
  obtain ⟨e0, e1⟩ := six_yes htk (fun _ => h0) (by omega) (v := wrapF 6 (a.tdiv b)) (by rw [hx])
  rw [e0, e1]; clear e0 e1 hx htk
  go_enter Try.func67, Try.ntmps67
  go_wp2_with (first | (go_at_call 85; refine (rin_any _ _ _).mono ?_; rintro e w' ⟨rfl, rfl⟩) | (go_at_call 42; refine (rwrap_any _ _ _).mono ?_; rintro e w' ⟨rfl, rfl⟩))
  go_ret2
  first | exact ⟨rfl, rfl⟩ | exact ⟨ret_two (by rw [Int.tmod_eq_emod_of_nonneg ha'.1]) rfl, rfl⟩

set_option maxHeartbeats 4000000 in
theorem rdo_12_5 (a b : Int) (w : World) (ha : inF 5 a = true) (hb : inF 5 b = true) :
    Calls Try.prog 67 #[.int .i64 12, .int .i64 5, .int .i64 a, .int .i64 b] w fun e w' => e = .returned (.tuple #[.int .i64 (doV 12 5 a b), .int .i64 (doU 12 5 a b)]) ∧ w = w' := by
  have htk := tk_low (k := 12) (.inl rfl) (by omega) ha hb
  have ha' := in5 ha
  have hb' := in5 hb
  by_cases h0 : b = 0
  · subst h0
    have hu := ud_div (k := 12) (t := 5) (a := a) (by omega)
    obtain ⟨e0, e1⟩ := do_bad htk (by rw [hu]; decide)
    rw [e0, e1, hu]; clear e0 e1 hu htk
    go_enter Try.func67, Try.ntmps67
    go_wp2_with (first | (go_at_call 85; refine (rin_any _ _ _).mono ?_; rintro e w' ⟨rfl, rfl⟩) | (go_at_call 42; refine (rwrap_any _ _ _).mono ?_; rintro e w' ⟨rfl, rfl⟩))
    go_ret2
    exact ⟨rfl, rfl⟩
  have h0' : (b == 0) = false := by simpa using h0
  have hq := tdiv_ab (a := a) (b := b) (m := 2147483648) (by omega)
  have hx : exV 12 a b = a.tmod b := by unfold exV; simp
  have ho : ovF 12 a b = !inF 5 (a.tdiv b) := by unfold ovF exV; simp
  have hm := tmod_in (b := b) ha'
  have hi2 := in5' hm
  cases hi : inF 5 (a.tdiv b)
  · obtain ⟨e0, e1⟩ := five_no htk (fun _ => h0) (by omega) (by rw [ho, hi]; rfl)
    rw [e0, e1]; clear e0 e1 hx htk ho
    go_enter Try.func67, Try.ntmps67
    go_wp2_with (first | (go_at_call 85; refine (rin_any _ _ _).mono ?_; rintro e w' ⟨rfl, rfl⟩) | (go_at_call 42; refine (rwrap_any _ _ _).mono ?_; rintro e w' ⟨rfl, rfl⟩))
    go_ret2
    exact ⟨rfl, rfl⟩
  · obtain ⟨e0, e1⟩ := five_yes htk (fun _ => h0) (by omega) (by rw [ho, hi]; rfl) (v := a.tmod b) (by rw [hx]; exact wrap5 hm)
    rw [e0, e1]; clear e0 e1 hx htk ho
    go_enter Try.func67, Try.ntmps67
    go_wp2_with (first | (go_at_call 85; refine (rin_any _ _ _).mono ?_; rintro e w' ⟨rfl, rfl⟩) | (go_at_call 42; refine (rwrap_any _ _ _).mono ?_; rintro e w' ⟨rfl, rfl⟩))
    go_ret2
    exact ⟨rfl, rfl⟩

set_option maxHeartbeats 4000000 in
theorem rdo_12_6 (a b : Int) (w : World) (ha : inF 6 a = true) (hb : inF 6 b = true) :
    Calls Try.prog 67 #[.int .i64 12, .int .i64 6, .int .i64 a, .int .i64 b] w fun e w' => e = .returned (.tuple #[.int .i64 (doV 12 6 a b), .int .i64 (doU 12 6 a b)]) ∧ w = w' := by
  have htk := tk_low (k := 12) (.inr rfl) (by omega) ha hb
  have ha' := in6 ha
  have hb' := in6 hb
  by_cases h0 : b = 0
  · subst h0
    have hu := ud_div (k := 12) (t := 6) (a := a) (by omega)
    obtain ⟨e0, e1⟩ := do_bad htk (by rw [hu]; decide)
    rw [e0, e1, hu]; clear e0 e1 hu htk
    go_enter Try.func67, Try.ntmps67
    go_wp2_with (first | (go_at_call 85; refine (rin_any _ _ _).mono ?_; rintro e w' ⟨rfl, rfl⟩) | (go_at_call 42; refine (rwrap_any _ _ _).mono ?_; rintro e w' ⟨rfl, rfl⟩))
    go_ret2
    exact ⟨rfl, rfl⟩
  have h0' : (b == 0) = false := by simpa using h0
  have hq := tdiv_ab (a := a) (b := b) (m := 4294967295) (by omega)
  have hx : exV 12 a b = a.tmod b := by unfold exV; simp
  have hq' := Int.tdiv_nonneg ha'.1 hb'.1
  have hi := in6' (v := a.tdiv b) (by omega)
  have hm := tmod_ab (a := a) (b := b) (m := 4294967295) (by omega)
  obtain ⟨e0, e1⟩ := six_yes htk (fun _ => h0) (by omega) (v := wrapF 6 (a.tmod b)) (by rw [hx])
  rw [e0, e1]; clear e0 e1 hx htk
  go_enter Try.func67, Try.ntmps67
  go_wp2_with (first | (go_at_call 85; refine (rin_any _ _ _).mono ?_; rintro e w' ⟨rfl, rfl⟩) | (go_at_call 42; refine (rwrap_any _ _ _).mono ?_; rintro e w' ⟨rfl, rfl⟩))
  go_ret2
  first | exact ⟨rfl, rfl⟩ | exact ⟨ret_two (by rw [Int.tmod_eq_emod_of_nonneg ha'.1]) rfl, rfl⟩

set_option maxHeartbeats 4000000 in
theorem rdo_13_5 (a b : Int) (w : World) (ha : inF 5 a = true) (hb : inF 5 b = true) :
    Calls Try.prog 67 #[.int .i64 13, .int .i64 5, .int .i64 a, .int .i64 b] w fun e w' => e = .returned (.tuple #[.int .i64 (doV 13 5 a b), .int .i64 (doU 13 5 a b)]) ∧ w = w' := by
  have htk := tk_low (k := 13) (.inl rfl) (by omega) ha hb
  have ha' := in5 ha
  have hb' := in5 hb
  have hx : exV 13 a b = bits .and .i64 a b := by unfold exV; simp
  have hd : bits .and .i64 a b = bits .and .i32 a b := bits_32 .and (by simp) ha' hb'
  have hr := bits_bd .and a b
  rw [← hd] at hr; clear hd
  have hi := in5' hr
  have ho : ovF 13 a b = !inF 5 (bits .and .i64 a b) := by rw [ov_plain (by omega), hx]
  obtain ⟨e0, e1⟩ := five_yes htk (by omega) (by omega) (by rw [ho, hi]; rfl) (v := bits .and .i64 a b) (by rw [hx]; exact wrap5 hr)
  rw [e0, e1]; clear e0 e1 hx htk ho
  go_enter Try.func67, Try.ntmps67
  go_wp2_with (first | (go_at_call 85; refine (rin_any _ _ _).mono ?_; rintro e w' ⟨rfl, rfl⟩) | (go_at_call 42; refine (rwrap_any _ _ _).mono ?_; rintro e w' ⟨rfl, rfl⟩))
  go_ret2
  exact ⟨rfl, rfl⟩

set_option maxHeartbeats 4000000 in
theorem rdo_13_6 (a b : Int) (w : World) (ha : inF 6 a = true) (hb : inF 6 b = true) :
    Calls Try.prog 67 #[.int .i64 13, .int .i64 6, .int .i64 a, .int .i64 b] w fun e w' => e = .returned (.tuple #[.int .i64 (doV 13 6 a b), .int .i64 (doU 13 6 a b)]) ∧ w = w' := by
  have htk := tk_low (k := 13) (.inr rfl) (by omega) ha hb
  have ha' := in6 ha
  have hb' := in6 hb
  have hx : exV 13 a b = bits .and .i64 a b := by unfold exV; simp
  have hd : bits .and .i64 a b = bits .and .u32 a b := bits_u .and (by simp) ha' hb'
  have hr := bits_ubd .and a b
  rw [← hd] at hr; clear hd
  obtain ⟨e0, e1⟩ := six_yes htk (by omega) (by omega) (v := wrapF 6 (bits .and .i64 a b)) (by rw [hx])
  rw [e0, e1]; clear e0 e1 hx htk
  go_enter Try.func67, Try.ntmps67
  go_wp2_with (first | (go_at_call 85; refine (rin_any _ _ _).mono ?_; rintro e w' ⟨rfl, rfl⟩) | (go_at_call 42; refine (rwrap_any _ _ _).mono ?_; rintro e w' ⟨rfl, rfl⟩))
  go_ret2
  exact ⟨rfl, rfl⟩

set_option maxHeartbeats 4000000 in
theorem rdo_14_5 (a b : Int) (w : World) (ha : inF 5 a = true) (hb : inF 5 b = true) :
    Calls Try.prog 67 #[.int .i64 14, .int .i64 5, .int .i64 a, .int .i64 b] w fun e w' => e = .returned (.tuple #[.int .i64 (doV 14 5 a b), .int .i64 (doU 14 5 a b)]) ∧ w = w' := by
  have htk := tk_low (k := 14) (.inl rfl) (by omega) ha hb
  have ha' := in5 ha
  have hb' := in5 hb
  have hx : exV 14 a b = bits .or .i64 a b := by unfold exV; simp
  have hd : bits .or .i64 a b = bits .or .i32 a b := bits_32 .or (by simp) ha' hb'
  have hr := bits_bd .or a b
  rw [← hd] at hr; clear hd
  have hi := in5' hr
  have ho : ovF 14 a b = !inF 5 (bits .or .i64 a b) := by rw [ov_plain (by omega), hx]
  obtain ⟨e0, e1⟩ := five_yes htk (by omega) (by omega) (by rw [ho, hi]; rfl) (v := bits .or .i64 a b) (by rw [hx]; exact wrap5 hr)
  rw [e0, e1]; clear e0 e1 hx htk ho
  go_enter Try.func67, Try.ntmps67
  go_wp2_with (first | (go_at_call 85; refine (rin_any _ _ _).mono ?_; rintro e w' ⟨rfl, rfl⟩) | (go_at_call 42; refine (rwrap_any _ _ _).mono ?_; rintro e w' ⟨rfl, rfl⟩))
  go_ret2
  exact ⟨rfl, rfl⟩

set_option maxHeartbeats 4000000 in
theorem rdo_14_6 (a b : Int) (w : World) (ha : inF 6 a = true) (hb : inF 6 b = true) :
    Calls Try.prog 67 #[.int .i64 14, .int .i64 6, .int .i64 a, .int .i64 b] w fun e w' => e = .returned (.tuple #[.int .i64 (doV 14 6 a b), .int .i64 (doU 14 6 a b)]) ∧ w = w' := by
  have htk := tk_low (k := 14) (.inr rfl) (by omega) ha hb
  have ha' := in6 ha
  have hb' := in6 hb
  have hx : exV 14 a b = bits .or .i64 a b := by unfold exV; simp
  have hd : bits .or .i64 a b = bits .or .u32 a b := bits_u .or (by simp) ha' hb'
  have hr := bits_ubd .or a b
  rw [← hd] at hr; clear hd
  obtain ⟨e0, e1⟩ := six_yes htk (by omega) (by omega) (v := wrapF 6 (bits .or .i64 a b)) (by rw [hx])
  rw [e0, e1]; clear e0 e1 hx htk
  go_enter Try.func67, Try.ntmps67
  go_wp2_with (first | (go_at_call 85; refine (rin_any _ _ _).mono ?_; rintro e w' ⟨rfl, rfl⟩) | (go_at_call 42; refine (rwrap_any _ _ _).mono ?_; rintro e w' ⟨rfl, rfl⟩))
  go_ret2
  exact ⟨rfl, rfl⟩

set_option maxHeartbeats 4000000 in
theorem rdo_15_5 (a b : Int) (w : World) (ha : inF 5 a = true) (hb : inF 5 b = true) :
    Calls Try.prog 67 #[.int .i64 15, .int .i64 5, .int .i64 a, .int .i64 b] w fun e w' => e = .returned (.tuple #[.int .i64 (doV 15 5 a b), .int .i64 (doU 15 5 a b)]) ∧ w = w' := by
  have htk := tk_low (k := 15) (.inl rfl) (by omega) ha hb
  have ha' := in5 ha
  have hb' := in5 hb
  have hx : exV 15 a b = bits .xor .i64 a b := by unfold exV; simp
  have hd : bits .xor .i64 a b = bits .xor .i32 a b := bits_32 .xor (by simp) ha' hb'
  have hr := bits_bd .xor a b
  rw [← hd] at hr; clear hd
  have hi := in5' hr
  have ho : ovF 15 a b = !inF 5 (bits .xor .i64 a b) := by rw [ov_plain (by omega), hx]
  obtain ⟨e0, e1⟩ := five_yes htk (by omega) (by omega) (by rw [ho, hi]; rfl) (v := bits .xor .i64 a b) (by rw [hx]; exact wrap5 hr)
  rw [e0, e1]; clear e0 e1 hx htk ho
  go_enter Try.func67, Try.ntmps67
  go_wp2_with (first | (go_at_call 85; refine (rin_any _ _ _).mono ?_; rintro e w' ⟨rfl, rfl⟩) | (go_at_call 42; refine (rwrap_any _ _ _).mono ?_; rintro e w' ⟨rfl, rfl⟩))
  go_ret2
  exact ⟨rfl, rfl⟩

set_option maxHeartbeats 4000000 in
theorem rdo_15_6 (a b : Int) (w : World) (ha : inF 6 a = true) (hb : inF 6 b = true) :
    Calls Try.prog 67 #[.int .i64 15, .int .i64 6, .int .i64 a, .int .i64 b] w fun e w' => e = .returned (.tuple #[.int .i64 (doV 15 6 a b), .int .i64 (doU 15 6 a b)]) ∧ w = w' := by
  have htk := tk_low (k := 15) (.inr rfl) (by omega) ha hb
  have ha' := in6 ha
  have hb' := in6 hb
  have hx : exV 15 a b = bits .xor .i64 a b := by unfold exV; simp
  have hd : bits .xor .i64 a b = bits .xor .u32 a b := bits_u .xor (by simp) ha' hb'
  have hr := bits_ubd .xor a b
  rw [← hd] at hr; clear hd
  obtain ⟨e0, e1⟩ := six_yes htk (by omega) (by omega) (v := wrapF 6 (bits .xor .i64 a b)) (by rw [hx])
  rw [e0, e1]; clear e0 e1 hx htk
  go_enter Try.func67, Try.ntmps67
  go_wp2_with (first | (go_at_call 85; refine (rin_any _ _ _).mono ?_; rintro e w' ⟨rfl, rfl⟩) | (go_at_call 42; refine (rwrap_any _ _ _).mono ?_; rintro e w' ⟨rfl, rfl⟩))
  go_ret2
  exact ⟨rfl, rfl⟩

set_option maxHeartbeats 4000000 in
theorem rdo_sh (k t a b : Int) (w : World) (ht : t = 5 ∨ t = 6) (hk : k = 16 ∨ k = 17) (ha : inF t a = true) :
    Calls Try.prog 67 #[.int .i64 k, .int .i64 t, .int .i64 a, .int .i64 b] w fun e w' => e = .returned (.tuple #[.int .i64 (doV k t a b), .int .i64 (doU k t a b)]) ∧ w = w' := by
  have hM := fun w => moved_any k t a b w ht hk ha
  rcases ht with rfl | rfl <;> rcases hk with rfl | rfl
  all_goals
    go_enter Try.func67, Try.ntmps67
    go_wp2_with (first | (go_at_call 85; refine (rin_any _ _ _).mono ?_; rintro e w' ⟨rfl, rfl⟩) | (go_at_call 42; refine (rwrap_any _ _ _).mono ?_; rintro e w' ⟨rfl, rfl⟩) | (go_at_call 86; refine (hM _).mono ?_; rintro e w' ⟨rfl, rfl⟩))
    go_ret2
    exact ⟨rfl, rfl⟩

/-- No numbers of the type, or no type that is reckoned with. -/
theorem rdo_no (k t a b : Int) (w : World) (h : (¬ (t = 5 ∨ t = 6)) ∨ inF t a = false ∨ (¬ (k = 16 ∨ k = 17) ∧ inF t b = false)) :
    Calls Try.prog 67 #[.int .i64 k, .int .i64 t, .int .i64 a, .int .i64 b] w fun e w' => e = .returned (.tuple #[.int .i64 (doV k t a b), .int .i64 (doU k t a b)]) ∧ w = w' := by
  have htk : tkF k t a b = false := by
    unfold tkF
    rcases h with h | h | ⟨h, h'⟩
    · simp [h]
    · simp [h]
    · rw [h']; simp; omega
  obtain ⟨e0, e1⟩ := do_no htk
  rw [e0, e1]; clear e0 e1 htk
  by_cases ht : t = 5 ∨ t = 6
  case' neg =>
    have h5 : (t == 5) = false := by simp only [beq_eq_false_iff_ne]; omega
    have h6 : (t == 6) = false := by simp only [beq_eq_false_iff_ne]; omega
    have h5' : (t != 5) = true := by simp only [bne_iff_ne]; omega
    have h6' : (t != 6) = true := by simp only [bne_iff_ne]; omega
    clear h ht
    rcases (show k = 16 ∨ k = 17 ∨ (k ≠ 16 ∧ k ≠ 17) by omega) with rfl | rfl | ⟨h16, h17⟩
    case' inr.inr =>
      replace h16 : (k == 16) = false := by simpa using h16
      replace h17 : (k == 17) = false := by simpa using h17
  case' pos =>
    replace h := h.resolve_left (fun hh => hh ht)
    by_cases hk : k = 16 ∨ k = 17
    case' pos =>
      have ha : inF t a = false := by rcases h with h | h; exact h; exact absurd hk h.1
      clear h
      rcases ht with rfl | rfl <;> rcases hk with rfl | rfl
    case' neg =>
      have h16 : (k == 16) = false := by simp only [beq_eq_false_iff_ne]; omega
      have h17 : (k == 17) = false := by simp only [beq_eq_false_iff_ne]; omega
      replace h : inF t a = false ∨ (inF t a = true ∧ inF t b = false) := by
        cases hh : inF t a
        · exact .inl rfl
        · rw [hh] at h; simp at h; exact .inr ⟨rfl, h.2⟩
      clear hk
      rcases ht with rfl | rfl <;> rcases h with h | ⟨h, h'⟩
  all_goals
    go_enter Try.func67, Try.ntmps67
    go_wp2_with (first | (go_at_call 85; refine (rin_any _ _ _).mono ?_; rintro e w' ⟨rfl, rfl⟩) | (go_at_call 42; refine (rwrap_any _ _ _).mono ?_; rintro e w' ⟨rfl, rfl⟩))
    go_ret2
    exact ⟨rfl, rfl⟩

set_option maxHeartbeats 4000000 in
theorem rdo_none (k t a b : Int) (w : World) (ht : t = 5 ∨ t = 6) (hk : NoK k) (ha : inF t a = true) (hb : inF t b = true) :
    Calls Try.prog 67 #[.int .i64 k, .int .i64 t, .int .i64 a, .int .i64 b] w fun e w' => e = .returned (.tuple #[.int .i64 (doV k t a b), .int .i64 (doU k t a b)]) ∧ w = w' := by
  have htk : tkF k t a b = false := by
    unfold NoK at hk; simp only [beq_eq_false_iff_ne] at hk
    unfold tkF; simp; intros; omega
  obtain ⟨e0, e1⟩ := do_no htk
  rw [e0, e1]; clear e0 e1 htk
  obtain ⟨k1, k2, k3, k4, k5, k6, k7, k8, k9, k10, k11, k12⟩ := hk
  have w6 : wrapF 6 0 = 0 := by decide
  have i5 : inF 5 0 = true := by decide
  rcases ht with rfl | rfl
  all_goals
    go_enter Try.func67, Try.ntmps67
    go_wp2_with (first | (go_at_call 85; refine (rin_any _ _ _).mono ?_; rintro e w' ⟨rfl, rfl⟩) | (go_at_call 42; refine (rwrap_any _ _ _).mono ?_; rintro e w' ⟨rfl, rfl⟩))
    go_ret2
    exact ⟨rfl, rfl⟩

theorem rdo_any (k t a b : Int) (w : World) :
    Calls Try.prog 67 #[.int .i64 k, .int .i64 t, .int .i64 a, .int .i64 b] w fun e w' => e = .returned (.tuple #[.int .i64 (doV k t a b), .int .i64 (doU k t a b)]) ∧ w = w' := by
  by_cases hno : (¬ (t = 5 ∨ t = 6)) ∨ inF t a = false ∨ (¬ (k = 16 ∨ k = 17) ∧ inF t b = false)
  · exact rdo_no k t a b w hno
  have ht : t = 5 ∨ t = 6 := by by_cases h : t = 5 ∨ t = 6; exact h; exact absurd (.inl h) hno
  have ha : inF t a = true := by cases h : inF t a; exact absurd (.inr (.inl h)) hno; rfl
  by_cases hk : k = 16 ∨ k = 17
  · exact rdo_sh k t a b w ht hk ha
  have hb : inF t b = true := by cases h : inF t b; exact absurd (.inr (.inr ⟨hk, h⟩)) hno; rfl
  clear hno
  rcases kinds k with rfl | rfl | rfl | rfl | rfl | rfl | rfl | rfl | rfl | rfl | rfl | rfl | ⟨hh, -⟩
  · rcases ht with rfl | rfl; exact rdo_6_5 a b w ha hb; exact rdo_6_6 a b w ha hb
  · rcases ht with rfl | rfl; exact rdo_7_5 a b w ha hb; exact rdo_7_6 a b w ha hb
  · rcases ht with rfl | rfl; exact rdo_8_5 a b w ha hb; exact rdo_8_6 a b w ha hb
  · rcases ht with rfl | rfl; exact rdo_9_5 a b w ha hb; exact rdo_9_6 a b w ha hb
  · rcases ht with rfl | rfl; exact rdo_10_5 a b w ha hb; exact rdo_10_6 a b w ha hb
  · rcases ht with rfl | rfl; exact rdo_11_5 a b w ha hb; exact rdo_11_6 a b w ha hb
  · rcases ht with rfl | rfl; exact rdo_12_5 a b w ha hb; exact rdo_12_6 a b w ha hb
  · rcases ht with rfl | rfl; exact rdo_13_5 a b w ha hb; exact rdo_13_6 a b w ha hb
  · rcases ht with rfl | rfl; exact rdo_14_5 a b w ha hb; exact rdo_14_6 a b w ha hb
  · rcases ht with rfl | rfl; exact rdo_15_5 a b w ha hb; exact rdo_15_6 a b w ha hb
  · exact absurd (.inl rfl) hk
  · exact absurd (.inr rfl) hk
  · exact rdo_none k t a b w ht hh ha hb
end Go.Proofs.Ytnlkcjbnmkpnhaa.Typ
namespace Go.Proofs.Ytnlkcjbnmkpnhaa.Evl
open Go.RowKit
open Typ (upF joinF wrapF doV doU rup_any rjoin_any relF)
open Prs (Ex)
open Fnd

def mixF (k a b : Int) : Int := if k = 6 ∨ k = 7 ∨ k = 16 ∨ k = 17 then upF (opdF a) else if 8 ≤ k ∧ k ≤ 15 then joinF (opdF a) (opdF b) else 0
theorem opd_cases (a : Int) : ((a == 0) = true ∧ opdF a = 5) ∨ ((a == 0) = false ∧ opdF a = a) := by
  by_cases h : a = 0
  · exact .inl ⟨by simpa using h, by unfold opdF; rw [if_pos h]⟩
  · exact .inr ⟨by simpa using h, by unfold opdF; rw [if_neg h]⟩
set_option maxRecDepth 100000 in
set_option maxHeartbeats 4000000 in
theorem mixed_any (k a b : Int) (w : World) : Calls Try.prog 66 #[.int .i64 k, .int .i64 a, .int .i64 b] w fun e w' => e = .returned (.int .i64 (mixF k a b)) ∧ w = w' := by
  unfold mixF
  rcases opd_cases a with ⟨e1, ha⟩ | ⟨e1, ha⟩ <;> rcases opd_cases b with ⟨e2, hb⟩ | ⟨e2, hb⟩
  all_goals
    rw [ha, hb]
    clear ha hb
    rcases (show k = 6 ∨ k = 7 ∨ k = 16 ∨ k = 17 ∨ (8 ≤ k ∧ k ≤ 15) ∨ k ≤ 5 ∨ 18 ≤ k by omega) with rfl | rfl | rfl | rfl | hk | hk | hk
    all_goals first
      | rw [if_pos (by omega)]
      | (rw [if_neg (by omega), if_pos (by omega)]; have k1 : (k == 6) = false := (by simp; omega); have k2 : (k == 7) = false := (by simp; omega); have k3 : (k == 16) = false := (by simp; omega); have k4 : (k == 17) = false := (by simp; omega))
      | (rw [if_neg (by omega), if_neg (by omega)]; have k1 : (k == 6) = false := (by simp; omega); have k2 : (k == 7) = false := (by simp; omega); have k3 : (k == 16) = false := (by simp; omega); have k4 : (k == 17) = false := (by simp; omega))
    all_goals
      go_enter Try.func66, Try.ntmps66
      go_wp2_with (first | (go_at_call 83; refine (rup_any _ _).mono ?_; rintro e w' ⟨rfl, rfl⟩) | (go_at_call 84; refine (rjoin_any _ _ _).mono ?_; rintro e w' ⟨rfl, rfl⟩))
      go_ret
      exact ⟨rfl, rfl⟩

theorem find_not {zs : List Bi} {nm : List UInt8} {k : Nat} (_hk : k < zs.length) (hi : ∀ p ∈ upto (backF zs) k, p.2.name ≠ nm) (hn : (zs[zs.length - 1 - k]?.getD Bi.none).name ≠ nm) : ∀ p ∈ upto (backF zs) (k + 1), p.2.name ≠ nm := by
  intro p hp
  rw [upto_succ] at hp
  rcases List.mem_append.1 hp with hp | hp
  · exact hi p hp
  · obtain rfl : p = backF zs k := by simpa using hp
    exact hn
theorem find_yes {zs : List Bi} {nm : List UInt8} {k : Nat} (hk : k < zs.length) (hi : ∀ p ∈ upto (backF zs) k, p.2.name ≠ nm) (hn : (zs[zs.length - 1 - k]?.getD Bi.none).name = nm) : findF zs nm = some (zs[zs.length - 1 - k]?.getD Bi.none) :=
  find_at (k := k + 1) (ini := upto (backF zs) k) (last := backF zs k) hk (upto_succ _ _) hi hn
set_option maxRecDepth 100000 in
set_option maxHeartbeats 4000000 in
theorem last_any (w : World) (bv : Value) (nm : List UInt8) (zs : List Bi) (hI : BindsAt w.heap.size w bv zs) :
    Calls Try.prog 47 #[bv, .string ⟨nm.toArray⟩] w fun e w' => e = .returned (foundV zs nm) ∧ Kept w w' := by
  obtain ⟨h0, h⟩ := hI
  have hform : ∃ a c, bv = .slice a zs.length c := by
    rcases h with ⟨rfl, rfl⟩ | ⟨b, cap, rfl, _⟩
    · exact ⟨_, _, rfl⟩
    · exact ⟨_, _, rfl⟩
  obtain ⟨a, c, rfl⟩ := hform
  have HI := Lib.hid (show BindsAt w.heap.size w (.slice a zs.length c) zs from ⟨h0, h⟩)
  clear h
  go_enter Try.func47, Try.ntmps47
  go_wp2
  have x0 := World.alloc_heap_new w (.cells #[.string ⟨#[]⟩, .int .i64 0, .int .i64 0, .int .i64 0] 63)
  have kW := (Kept.refl w).alloc (.cells #[.string ⟨#[]⟩, .int .i64 0, .int .i64 0, .int .i64 0] 63)
  have HI2 := Lib.hid (binds_kept HI.out kW)
  generalize w.alloc (.cells #[.string ⟨#[]⟩, .int .i64 0, .int .i64 0, .int .i64 0] 63) = W at *
  generalize hrb : w.heap.size = rb at *
  have X := Lib.hid x0
  have KW := Lib.hid kW
  clear x0 kW HI
  go_loopg [6] zs.length (fun k v wx => k ≤ zs.length ∧ v = .int .i64 ((k : Int) - 1) ∧ W = wx ∧ Hid (∀ p ∈ upto (backF zs) (zs.length - k), p.2.name ≠ nm))
  case atStart => exact ⟨Nat.le_refl _, rfl, rfl, Lib.hid (by simp [upto])⟩
  case round =>
    obtain ⟨hk, rfl, rfl, hN⟩ := hrel
    have r0 := bx_cell X.out 0 _ rfl
    have r1 := bx_cell X.out 1 _ rfl
    have r2 := bx_cell X.out 2 _ rfl
    have r3 := bx_cell X.out 3 _ rfl
    have rf := bx_froz X.out
    have R := Lib.hid (fun a b c d => put4 (w := w) a b c d (by omega) KW.out X.out)
    cases gk with
    | zero =>
      go_wp2
      have s := R.out (.string ⟨#[]⟩) (.int .i64 0) (.int .i64 0) (.int .i64 0)
      have z0 := bx_cell s.1 0 _ rfl
      have z1 := bx_cell s.1 1 _ rfl
      have z2 := bx_cell s.1 2 _ rfl
      have z3 := bx_cell s.1 3 _ rfl
      have S := Lib.hid s.2
      clear s r0 r1 r2 r3
      have hf : findF zs nm = Option.none := find_none (by simpa using hN.out)
      rw [foundV, hf]
      simp [bodyPost, results, Try.f47, go_sem, z0, z1, z2, z3, biVal, Bi.none]
      exact S.out
    | succ m =>
      obtain ⟨q0, q⟩ := HI2.out
      rcases q with ⟨q1, q2⟩ | ⟨b, cap, q1, q2, q3, q4, q5⟩
      · subst q2; simp at hk
      have hm := q5 m (by omega)
      injection q1 with q1 q1' q1''
      subst q1 q1''
      have HN := find_not (nm := nm) (k := zs.length - (m + 1)) (by omega) hN.out
      have HY := find_yes (nm := nm) (k := zs.length - (m + 1)) (by omega) hN.out
      rw [show zs.length - 1 - (zs.length - (m + 1)) = m by omega] at HN HY
      generalize zs[m]?.getD Bi.none = y at *
      rw [show zs.length - (m + 1) + 1 = zs.length - m by omega] at HN
      obtain ⟨y0, y1, y2, y3⟩ := hm
      have HNY := Lib.hid (And.intro HN HY)
      clear HN HY q5 hN
      simp only [maxLen] at q3
      go_wp2
      · have hy : y.name = nm := beq_iff_eq.1 (by assumption)
        have s := R.out (.string ⟨y.name.toArray⟩) (.int .i64 y.t) (.int .i64 y.size) (.int .i64 y.id)
        have z0 := bx_cell s.1 0 _ rfl
        have z1 := bx_cell s.1 1 _ rfl
        have z2 := bx_cell s.1 2 _ rfl
        have z3 := bx_cell s.1 3 _ rfl
        have S := Lib.hid s.2
        clear s r0 r1 r2 r3
        rw [foundV, HNY.out.2 hy]
        simp [bodyPost, results, Try.f47, go_sem, z0, z1, z2, z3, biVal]
        exact S.out
      · have hy : y.name ≠ nm := beq_eq_false_iff_ne.1 (by assumption)
        go_roundg m
        case measure => omega
        case rel => exact ⟨by omega, by congr 1, rfl, Lib.hid (HNY.out.1 hy)⟩
end Go.Proofs.Ytnlkcjbnmkpnhaa.Evl
namespace Go.Proofs.Ytnlkcjbnmkpnhaa.Evl
open Go.RowKit
open Typ (upF joinF wrapF doV doU)
open Prs (Ex)
open Fnd (Bi BindsAt findF foundV biVal bx_cell bx_froz)
open Mem (Bk MemAt getV)

/-- The document's answer's memory, its environment, as package eval's own. -/
def RMemIs (w : World) (mv : Value) (m : Option (List Bk)) : Prop :=
  (mv = .pointer none ∧ m = none) ∨ ∃ B p v L, mv = .pointer (some ⟨p, 0, none⟩) ∧ MemAt B 60 w p v L ∧ m = some L
theorem RMemIs.kept {w w' : World} {mv : Value} {m : Option (List Bk)} (h : RMemIs w mv m) (hk : Kept w w') : RMemIs w' mv m := by
  rcases h with h | ⟨B, p, v, L, h1, h2, h3⟩
  · exact .inl h
  · exact .inr ⟨B, p, v, L, h1, h2.kept hk, h3⟩
theorem RMemIs.form {w : World} {mv : Value} {m : Option (List Bk)} (h : RMemIs w mv m) : ∃ o, mv = .pointer o := by
  rcases h with ⟨h, _⟩ | ⟨B, p, v, L, h1, _⟩
  · exact ⟨_, h⟩
  · exact ⟨_, h1⟩
structure REnvAt (w : World) (mv bv ov obv : Value) (E : Env) : Prop where
  mem : RMemIs w mv E.mem
  binds : BindsAt w.heap.size w bv E.binds
  old : RMemIs w ov E.old
  olds : BindsAt w.heap.size w obv E.olds
  sz : ∀ b ∈ E.binds, 0 ≤ b.size
  osz : ∀ b ∈ E.olds, 0 ≤ b.size
theorem REnvAt.kept {w w' : World} {mv bv ov obv : Value} {E : Env} (h : REnvAt w mv bv ov obv E) (hk : Kept w w') : REnvAt w' mv bv ov obv E :=
  ⟨h.mem.kept hk, binds_kept h.binds hk, h.old.kept hk, binds_kept h.olds hk, h.sz, h.osz⟩
theorem REnvAt.past {w : World} {mv bv ov obv : Value} {E : Env} (h : REnvAt w mv bv ov obv E) : REnvAt w ov obv ov obv E.past :=
  ⟨h.old, h.olds, h.old, h.olds, h.osz, h.osz⟩
theorem find_mem {zs : List Bi} {nm : List UInt8} {b : Bi} (h : findF zs nm = some b) : b ∈ zs := by
  unfold findF at h
  rw [Option.map_eq_some_iff] at h
  obtain ⟨p, hp, rfl⟩ := h
  have := List.mem_of_find?_eq_some hp
  unfold Fnd.upto at this
  obtain ⟨k, hk, rfl⟩ := List.mem_map.1 this
  have hk' := List.mem_range.1 hk
  unfold Fnd.backF
  rw [List.getElem?_eq_getElem (by omega)]
  exact List.getElem_mem _
def gotC (a : Ans) : Array Value := #[.int .i64 a.v, .int .i64 a.t, .int .i64 a.ub, .int .i64 a.at_]
def elemA (n : Ex) (E : Env) (x : Ans) : Ans := if x.ub ≠ 0 then ⟨0, (namedA n E x.v).t, x.ub, x.at_⟩ else namedA n E x.v
/-- A struct made and filled. -/
theorem new4 {w0 w : World} (cs : Array Value) (t : TypeId) (hk : Kept w0 w) : (w.alloc (.cells cs t)).heap[w.heap.size]? = some (.cells cs t (0, 0)) ∧ Kept w0 (w.alloc (.cells cs t)) :=
  ⟨World.alloc_heap_new w _, hk.alloc _⟩
set_option maxRecDepth 100000 in
set_option maxHeartbeats 4000000 in
theorem elem_none {w : World} {lv mv bv ov obv : Value} {E : Env} {n : Ex} {X : Ans} (hE : REnvAt w mv bv ov obv E) (hf : findF E.binds n.name = none) (hX : ∀ w1, Kept w w1 → Calls Try.prog 28 #[lv, .int .i64 n.a, envVal mv bv ov obv E] w1 fun e w' => e = .returned (ansVal X) ∧ Kept w1 w') :
    Calls Try.prog 48 #[lv, exVal n, envVal mv bv ov obv E] w fun e w' => e = .returned (ansVal (elemA n E X)) ∧ Kept w w' := by
  have hb : bindF E n.name = none := by unfold bindF; rw [hf]; cases E.mem <;> rfl
  have hn : ∀ v, namedA n E v = Ans.none := fun v => by unfold namedA; rw [hb]
  have HF := Lib.hid (fun w1 (hk : Kept w w1) => last_any w1 bv n.name E.binds (binds_kept hE.binds hk))
  rw [foundV, hf] at HF
  obtain ⟨m, hm⟩ := hE.mem.form
  obtain ⟨ba, bl, bc, hbv⟩ := binds_form hE.binds
  subst hm hbv
  have HX := Lib.hid hX
  clear hX hE hb hf
  unfold elemA
  rw [hn]
  unfold Ans.none
  unfold ansVal envVal exVal at *
  unfold biVal Bi.none at HF
  simp only at HF
  by_cases hu : X.ub = 0
  case' pos => rw [if_neg (by omega)]; have hub : (X.ub != 0) = false := by simpa using hu
  case' neg => rw [if_pos hu]; have hub : (X.ub != 0) = true := by simpa using hu
  all_goals
    clear hu hn
    go_enter Try.func48, Try.ntmps48
    go_upto_region 1 with fail
    obtain ⟨x0, x1, x2, kW, hsz⟩ := three w (.cells #[.int .i64 n.kind, .int .i64 n.num, .int .i64 n.ty, .string ⟨n.name.toArray⟩, .int .i64 n.a, .int .i64 n.b, .int .i64 n.place] 51) (.cells #[.pointer m, .slice ba bl bc, ov, obv, .int .i64 E.res, .int .i64 E.t] 35) (.cells #[.int .i64 0, .int .i64 0, .int .i64 0, .int .i64 0] 77)
    generalize (((w.alloc (.cells #[.int .i64 n.kind, .int .i64 n.num, .int .i64 n.ty, .string ⟨n.name.toArray⟩, .int .i64 n.a, .int .i64 n.b, .int .i64 n.place] 51)).alloc (.cells #[.pointer m, .slice ba bl bc, ov, obv, .int .i64 E.res, .int .i64 E.t] 35)).alloc (.cells #[.int .i64 0, .int .i64 0, .int .i64 0, .int .i64 0] 77)) = W at *
    have n3 := bx_cell x0 3 _ rfl
    have n4 := bx_cell x0 4 _ rfl
    have e0 := bx_cell x1 0 _ rfl
    have e1 := bx_cell x1 1 _ rfl
    have e2 := bx_cell x1 2 _ rfl
    have e3 := bx_cell x1 3 _ rfl
    have e4 := bx_cell x1 4 _ rfl
    have e5 := bx_cell x1 5 _ rfl
    have Y := Lib.hid (And.intro x0 (And.intro x1 x2))
    have KW := Lib.hid kW
    clear x0 x1 x2 kW
    go_upto_region 2 with (go_at_call 28; refine (HX.out _ KW.out).mono ?_; rintro e w5 ⟨rfl, k5⟩; have K5 := Lib.hid k5; clear k5)
    have s1 := new4 (w := w5) #[.int .i64 X.v, .int .i64 X.t, .int .i64 X.ub, .int .i64 X.at_] 77 K5.out
    have hs5 : w.heap.size + 3 ≤ w5.heap.size := by have := Below.size K5.out; omega
    generalize w5.alloc (.cells #[.int .i64 X.v, .int .i64 X.t, .int .i64 X.ub, .int .i64 X.at_] 77) = W6 at *
    generalize w5.heap.size = c at *
    clear n3 n4 e0 e1 e2 e3 e4 e5 K5
    have Z := Lib.hid s1
    have n3 := bx_cell (kh Y.out.1 s1.2) 3 _ rfl
    have e1 := bx_cell (kh Y.out.2.1 s1.2) 1 _ rfl
    clear s1
    go_upto_region 3 with (go_at_call 47; refine (HF.out _ (KW.out.trans Z.out.2)).mono ?_; rintro e w7 ⟨rfl, k7⟩; have K7 := Lib.hid (Z.out.2.trans k7); have Z7 := Lib.hid (kh Z.out.1 k7); clear k7)
    have s2 := new4 (w := w7) #[.string ⟨#[]⟩, .int .i64 0, .int .i64 0, .int .i64 0] 63 (Kept.refl w7)
    generalize w7.alloc (.cells #[.string ⟨#[]⟩, .int .i64 0, .int .i64 0, .int .i64 0] 63) = W8 at *
    generalize w7.heap.size = d at *
    clear n3 e1 Z
    have K8 := Lib.hid (K7.out.trans s2.2)
    have n6 := bx_cell (kh Y.out.1 K8.out) 6 _ rfl
    have e0 := bx_cell (kh Y.out.2.1 K8.out) 0 _ rfl
    have r0 := bx_cell (kh Y.out.2.2 K8.out) 0 _ rfl
    have r1 := bx_cell (kh Y.out.2.2 K8.out) 1 _ rfl
    have r2 := bx_cell (kh Y.out.2.2 K8.out) 2 _ rfl
    have r3 := bx_cell (kh Y.out.2.2 K8.out) 3 _ rfl
    have rf := bx_froz (kh Y.out.2.2 K8.out)
    have g0 := bx_cell (kh Z7.out s2.2) 0 _ rfl
    have g1 := bx_cell (kh Z7.out s2.2) 1 _ rfl
    have g2 := bx_cell (kh Z7.out s2.2) 2 _ rfl
    have g3 := bx_cell (kh Z7.out s2.2) 3 _ rfl
    have b0 := bx_cell s2.1 0 _ rfl
    have b1 := bx_cell s2.1 1 _ rfl
    have b2 := bx_cell s2.1 2 _ rfl
    have b3 := bx_cell s2.1 3 _ rfl
    have R := Lib.hid (fun a b c d => put4 (w := w) a b c d (by omega) (KW.out.trans K8.out) (kh Y.out.2.2 K8.out))
    clear s2 K7 Z7
    go_wp2
    first | (have s := R.out (.int .i64 0) (.int .i64 5) (.int .i64 0) (.int .i64 0); have z0 := bx_cell s.1 0 _ rfl; have z1 := bx_cell s.1 1 _ rfl; have z2 := bx_cell s.1 2 _ rfl; have z3 := bx_cell s.1 3 _ rfl; have S := Lib.hid s.2; clear s r0 r1 r2 r3 g0 g1 g2 g3 n6 e0 b0 b1 b2 b3 HF HX; simp [bodyPost, results, Try.f48, go_sem, z0, z1, z2, z3]; exact S.out) | (have s := R.out (.int .i64 0) (.int .i64 5) (.int .i64 X.ub) (.int .i64 X.at_); have z0 := bx_cell s.1 0 _ rfl; have z1 := bx_cell s.1 1 _ rfl; have z2 := bx_cell s.1 2 _ rfl; have z3 := bx_cell s.1 3 _ rfl; have S := Lib.hid s.2; clear s r0 r1 r2 r3 g0 g1 g2 g3 n6 e0 b0 b1 b2 b3 HF HX; simp [bodyPost, results, Try.f48, go_sem, z0, z1, z2, z3]; exact S.out)
set_option maxRecDepth 100000 in
set_option maxHeartbeats 4000000 in
theorem elem_nil {w : World} {lv mv bv ov obv : Value} {E : Env} {n : Ex} {X : Ans} {b : Bi} (hE : REnvAt w mv bv ov obv E) (hf : findF E.binds n.name = some b) (hmv : mv = .pointer none) (hm : E.mem = none) (hX : ∀ w1, Kept w w1 → Calls Try.prog 28 #[lv, .int .i64 n.a, envVal mv bv ov obv E] w1 fun e w' => e = .returned (ansVal X) ∧ Kept w1 w') :
    Calls Try.prog 48 #[lv, exVal n, envVal mv bv ov obv E] w fun e w' => e = .returned (ansVal (elemA n E X)) ∧ Kept w w' := by
  have HF := Lib.hid (fun w1 (hk : Kept w w1) => last_any w1 bv n.name E.binds (binds_kept hE.binds hk))
  rw [foundV, hf] at HF
  obtain ⟨ba, bl, bc, hbv⟩ := binds_form hE.binds
  subst hbv hmv
  have HX := Lib.hid hX
  unfold elemA
  have hn : ∀ v, namedA n E v = Ans.none := fun v => by unfold namedA bindF; rw [hm]
  rw [hn]
  unfold Ans.none
  clear hX hE hf hm hn
  unfold ansVal envVal exVal at *
  unfold biVal at HF
  simp only at HF
  by_cases hu : X.ub = 0
  case' pos => rw [if_neg (by omega)]; have hub : (X.ub != 0) = false := by simpa using hu
  case' neg => rw [if_pos hu]; have hub : (X.ub != 0) = true := by simpa using hu
  all_goals
    clear hu
    go_enter Try.func48, Try.ntmps48
    go_upto_region 1 with fail
    obtain ⟨x0, x1, x2, kW, hsz⟩ := three w (.cells #[.int .i64 n.kind, .int .i64 n.num, .int .i64 n.ty, .string ⟨n.name.toArray⟩, .int .i64 n.a, .int .i64 n.b, .int .i64 n.place] 51) (.cells #[.pointer none, .slice ba bl bc, ov, obv, .int .i64 E.res, .int .i64 E.t] 35) (.cells #[.int .i64 0, .int .i64 0, .int .i64 0, .int .i64 0] 77)
    generalize (((w.alloc (.cells #[.int .i64 n.kind, .int .i64 n.num, .int .i64 n.ty, .string ⟨n.name.toArray⟩, .int .i64 n.a, .int .i64 n.b, .int .i64 n.place] 51)).alloc (.cells #[.pointer none, .slice ba bl bc, ov, obv, .int .i64 E.res, .int .i64 E.t] 35)).alloc (.cells #[.int .i64 0, .int .i64 0, .int .i64 0, .int .i64 0] 77)) = W at *
    have n3 := bx_cell x0 3 _ rfl
    have n4 := bx_cell x0 4 _ rfl
    have e0 := bx_cell x1 0 _ rfl
    have e1 := bx_cell x1 1 _ rfl
    have e2 := bx_cell x1 2 _ rfl
    have e3 := bx_cell x1 3 _ rfl
    have e4 := bx_cell x1 4 _ rfl
    have e5 := bx_cell x1 5 _ rfl
    have Y := Lib.hid (And.intro x0 (And.intro x1 x2))
    have KW := Lib.hid kW
    clear x0 x1 x2 kW
    go_upto_region 2 with (go_at_call 28; refine (HX.out _ KW.out).mono ?_; rintro e w5 ⟨rfl, k5⟩; have K5 := Lib.hid k5; clear k5)
    have s1 := new4 (w := w5) #[.int .i64 X.v, .int .i64 X.t, .int .i64 X.ub, .int .i64 X.at_] 77 K5.out
    have hs5 : w.heap.size + 3 ≤ w5.heap.size := by have := Below.size K5.out; omega
    generalize w5.alloc (.cells #[.int .i64 X.v, .int .i64 X.t, .int .i64 X.ub, .int .i64 X.at_] 77) = W6 at *
    generalize w5.heap.size = c at *
    clear n3 n4 e0 e1 e2 e3 e4 e5 K5
    have Z := Lib.hid s1
    have n3 := bx_cell (kh Y.out.1 s1.2) 3 _ rfl
    have e1 := bx_cell (kh Y.out.2.1 s1.2) 1 _ rfl
    clear s1
    go_upto_region 3 with (go_at_call 47; refine (HF.out _ (KW.out.trans Z.out.2)).mono ?_; rintro e w7 ⟨rfl, k7⟩; have K7 := Lib.hid (Z.out.2.trans k7); have Z7 := Lib.hid (kh Z.out.1 k7); clear k7)
    have s2 := new4 (w := w7) #[.string ⟨b.name.toArray⟩, .int .i64 b.t, .int .i64 b.size, .int .i64 b.id] 63 (Kept.refl w7)
    generalize w7.alloc (.cells #[.string ⟨b.name.toArray⟩, .int .i64 b.t, .int .i64 b.size, .int .i64 b.id] 63) = W8 at *
    generalize w7.heap.size = d at *
    clear n3 e1 Z
    have K8 := Lib.hid (K7.out.trans s2.2)
    have n6 := bx_cell (kh Y.out.1 K8.out) 6 _ rfl
    have e0 := bx_cell (kh Y.out.2.1 K8.out) 0 _ rfl
    have r0 := bx_cell (kh Y.out.2.2 K8.out) 0 _ rfl
    have r1 := bx_cell (kh Y.out.2.2 K8.out) 1 _ rfl
    have r2 := bx_cell (kh Y.out.2.2 K8.out) 2 _ rfl
    have r3 := bx_cell (kh Y.out.2.2 K8.out) 3 _ rfl
    have rf := bx_froz (kh Y.out.2.2 K8.out)
    have g0 := bx_cell (kh Z7.out s2.2) 0 _ rfl
    have g1 := bx_cell (kh Z7.out s2.2) 1 _ rfl
    have g2 := bx_cell (kh Z7.out s2.2) 2 _ rfl
    have g3 := bx_cell (kh Z7.out s2.2) 3 _ rfl
    have b0 := bx_cell s2.1 0 _ rfl
    have b1 := bx_cell s2.1 1 _ rfl
    have b2 := bx_cell s2.1 2 _ rfl
    have b3 := bx_cell s2.1 3 _ rfl
    have R := Lib.hid (fun a b c d => put4 (w := w) a b c d (by omega) (KW.out.trans K8.out) (kh Y.out.2.2 K8.out))
    clear s2 K7 Z7
    go_wp2
    first | (have s := R.out (.int .i64 0) (.int .i64 5) (.int .i64 0) (.int .i64 0); have z0 := bx_cell s.1 0 _ rfl; have z1 := bx_cell s.1 1 _ rfl; have z2 := bx_cell s.1 2 _ rfl; have z3 := bx_cell s.1 3 _ rfl; have S := Lib.hid s.2; clear s r0 r1 r2 r3 g0 g1 g2 g3 n6 e0 b0 b1 b2 b3 HF HX; simp [bodyPost, results, Try.f48, go_sem, z0, z1, z2, z3]; exact S.out) | (have s := R.out (.int .i64 0) (.int .i64 5) (.int .i64 X.ub) (.int .i64 X.at_); have z0 := bx_cell s.1 0 _ rfl; have z1 := bx_cell s.1 1 _ rfl; have z2 := bx_cell s.1 2 _ rfl; have z3 := bx_cell s.1 3 _ rfl; have S := Lib.hid s.2; clear s r0 r1 r2 r3 g0 g1 g2 g3 n6 e0 b0 b1 b2 b3 HF HX; simp [bodyPost, results, Try.f48, go_sem, z0, z1, z2, z3]; exact S.out)
set_option maxRecDepth 100000 in
set_option maxHeartbeats 4000000 in
theorem elem_some {w : World} {lv mv bv ov obv : Value} {E : Env} {n : Ex} {X : Ans} {b : Bi} (hE : REnvAt w mv bv ov obv E) (hk3 : n.kind = 3) (hf : findF E.binds n.name = some b) {B p : Nat} {v : Value} {L : List Bk} (hmv : mv = .pointer (some ⟨p, 0, none⟩)) (hM : MemAt B 60 w p v L) (hm : E.mem = some L) (hX : ∀ w1, Kept w w1 → Calls Try.prog 28 #[lv, .int .i64 n.a, envVal mv bv ov obv E] w1 fun e w' => e = .returned (ansVal X) ∧ Kept w1 w') :
    Calls Try.prog 48 #[lv, exVal n, envVal mv bv ov obv E] w fun e w' => e = .returned (ansVal (elemA n E X)) ∧ Kept w w' := by
  have HF := Lib.hid (fun w1 (hk : Kept w w1) => last_any w1 bv n.name E.binds (binds_kept hE.binds hk))
  rw [foundV, hf] at HF
  have hsz := hE.sz b (find_mem hf)
  obtain ⟨ba, bl, bc, hbv⟩ := binds_form hE.binds
  subst hbv hmv
  have HX := Lib.hid hX
  unfold elemA
  have hn : ∀ v, namedA n E v = if 0 ≤ v ∧ v < max 1 b.size then ⟨(getV L b.id v).1, b.t, 0, 0⟩ else ⟨0, b.t, 4, n.place⟩ := fun v => by
    unfold namedA bindF
    rw [hm, hf]
    simp only [Option.map_some, hk3, if_true]
    have hh : hasF b v = decide (0 ≤ v ∧ v < max 1 b.size) := by
      unfold hasF
      by_cases h0 : b.size = 0
      · rw [if_pos h0, h0]; rfl
      · rw [if_neg h0, show max 1 b.size = b.size by omega]
    rw [hh]
    by_cases h : 0 ≤ v ∧ v < max 1 b.size
    · rw [if_pos h, decide_eq_true h]; rfl
    · rw [if_neg h, decide_eq_false h]; rfl
  have ht : (namedA n E X.v).t = b.t := by rw [hn]; split <;> rfl
  rw [ht, hn]
  have HG : Hid (∀ w1, Kept w w1 → ∀ at_, Calls Try.prog 41 #[.pointer (some ⟨p, 0, none⟩), .int .i64 b.id, .int .i64 at_] w1 fun e w' => e = .returned (.tuple #[.int .i64 (getV L b.id at_).1, .bool (getV L b.id at_).2]) ∧ w1 = w') := Lib.hid fun w1 hk at_ => Mem.rget_any (hM.kept hk) b.id at_
  clear hX hE hf hm hn ht hM hk3 hsz
  unfold ansVal envVal exVal at *
  unfold biVal at HF
  simp only at HF
  have HV := Lib.hid (HG.out w (Kept.refl w) X.v)
  clear HV
  generalize hG : getV L b.id X.v = G at *
  have HG2 : Hid (∀ w1, Kept w w1 → Calls Try.prog 41 #[.pointer (some ⟨p, 0, none⟩), .int .i64 b.id, .int .i64 X.v] w1 fun e w' => e = .returned (.tuple #[.int .i64 G.1, .bool G.2]) ∧ w1 = w') := Lib.hid fun w1 hk => by have := HG.out w1 hk X.v; rw [hG] at this; exact this
  clear HG hG
  by_cases hu : X.ub = 0
  case' neg => rw [if_pos hu]; have hub : (X.ub != 0) = true := by simpa using hu
  case' pos => rw [if_neg (by omega)]; have hub : (X.ub != 0) = false := by simpa using hu
  case' pos => rcases (show X.v < 0 ∨ (0 ≤ X.v ∧ X.v < max 1 b.size) ∨ (0 ≤ X.v ∧ max 1 b.size ≤ X.v) by omega) with h1 | ⟨h1, h2⟩ | ⟨h1, h2⟩
  case' pos.inl => rw [if_neg (by omega)]; have h3 : decide (X.v < 0) = true := by simpa using h1
  case' pos.inr.inl => rw [if_pos (by omega)]; have h3 : decide (X.v < 0) = false := (by simp; omega); have h4 : decide (max 1 b.size ≤ X.v) = false := (by simp only [decide_eq_false_iff_not]; omega)
  case' pos.inr.inr => rw [if_neg (by omega)]; have h3 : decide (X.v < 0) = false := (by simp; omega); have h4 : decide (max 1 b.size ≤ X.v) = true := (by simp only [decide_eq_true_eq]; omega)
  all_goals
    clear hu
    go_enter Try.func48, Try.ntmps48
    go_upto_region 1 with fail
    obtain ⟨x0, x1, x2, kW, hsz⟩ := three w (.cells #[.int .i64 n.kind, .int .i64 n.num, .int .i64 n.ty, .string ⟨n.name.toArray⟩, .int .i64 n.a, .int .i64 n.b, .int .i64 n.place] 51) (.cells #[.pointer (some ⟨p, 0, none⟩), .slice ba bl bc, ov, obv, .int .i64 E.res, .int .i64 E.t] 35) (.cells #[.int .i64 0, .int .i64 0, .int .i64 0, .int .i64 0] 77)
    generalize (((w.alloc (.cells #[.int .i64 n.kind, .int .i64 n.num, .int .i64 n.ty, .string ⟨n.name.toArray⟩, .int .i64 n.a, .int .i64 n.b, .int .i64 n.place] 51)).alloc (.cells #[.pointer (some ⟨p, 0, none⟩), .slice ba bl bc, ov, obv, .int .i64 E.res, .int .i64 E.t] 35)).alloc (.cells #[.int .i64 0, .int .i64 0, .int .i64 0, .int .i64 0] 77)) = W at *
    have n3 := bx_cell x0 3 _ rfl
    have n4 := bx_cell x0 4 _ rfl
    have e0 := bx_cell x1 0 _ rfl
    have e1 := bx_cell x1 1 _ rfl
    have e2 := bx_cell x1 2 _ rfl
    have e3 := bx_cell x1 3 _ rfl
    have e4 := bx_cell x1 4 _ rfl
    have e5 := bx_cell x1 5 _ rfl
    have Y := Lib.hid (And.intro x0 (And.intro x1 x2))
    have KW := Lib.hid kW
    clear x0 x1 x2 kW
    go_upto_region 2 with (go_at_call 28; refine (HX.out _ KW.out).mono ?_; rintro e w5 ⟨rfl, k5⟩; have K5 := Lib.hid k5; clear k5)
    have s1 := new4 (w := w5) #[.int .i64 X.v, .int .i64 X.t, .int .i64 X.ub, .int .i64 X.at_] 77 K5.out
    have hs5 : w.heap.size + 3 ≤ w5.heap.size := by have := Below.size K5.out; omega
    generalize w5.alloc (.cells #[.int .i64 X.v, .int .i64 X.t, .int .i64 X.ub, .int .i64 X.at_] 77) = W6 at *
    generalize w5.heap.size = c at *
    clear n3 n4 e0 e1 e2 e3 e4 e5 K5
    have Z := Lib.hid s1
    have n3 := bx_cell (kh Y.out.1 s1.2) 3 _ rfl
    have e1 := bx_cell (kh Y.out.2.1 s1.2) 1 _ rfl
    clear s1
    go_upto_region 3 with (go_at_call 47; refine (HF.out _ (KW.out.trans Z.out.2)).mono ?_; rintro e w7 ⟨rfl, k7⟩; have K7 := Lib.hid (Z.out.2.trans k7); have Z7 := Lib.hid (kh Z.out.1 k7); clear k7)
    have s2 := new4 (w := w7) #[.string ⟨b.name.toArray⟩, .int .i64 b.t, .int .i64 b.size, .int .i64 b.id] 63 (Kept.refl w7)
    generalize w7.alloc (.cells #[.string ⟨b.name.toArray⟩, .int .i64 b.t, .int .i64 b.size, .int .i64 b.id] 63) = W8 at *
    generalize w7.heap.size = d at *
    clear n3 e1 Z
    have K8 := Lib.hid (K7.out.trans s2.2)
    have n6 := bx_cell (kh Y.out.1 K8.out) 6 _ rfl
    have e0 := bx_cell (kh Y.out.2.1 K8.out) 0 _ rfl
    have r0 := bx_cell (kh Y.out.2.2 K8.out) 0 _ rfl
    have r1 := bx_cell (kh Y.out.2.2 K8.out) 1 _ rfl
    have r2 := bx_cell (kh Y.out.2.2 K8.out) 2 _ rfl
    have r3 := bx_cell (kh Y.out.2.2 K8.out) 3 _ rfl
    have rf := bx_froz (kh Y.out.2.2 K8.out)
    have g0 := bx_cell (kh Z7.out s2.2) 0 _ rfl
    have g1 := bx_cell (kh Z7.out s2.2) 1 _ rfl
    have g2 := bx_cell (kh Z7.out s2.2) 2 _ rfl
    have g3 := bx_cell (kh Z7.out s2.2) 3 _ rfl
    have b0 := bx_cell s2.1 0 _ rfl
    have b1 := bx_cell s2.1 1 _ rfl
    have b2 := bx_cell s2.1 2 _ rfl
    have b3 := bx_cell s2.1 3 _ rfl
    have R := Lib.hid (fun a b c d => put4 (w := w) a b c d (by omega) (KW.out.trans K8.out) (kh Y.out.2.2 K8.out))
    clear s2 K7 Z7
    have KK := Lib.hid (KW.out.trans K8.out)
    go_wp2_with (go_at_call 41; refine (HG2.out _ KK.out).mono ?_; rintro e w9 ⟨rfl, rfl⟩)
    first | (have s := R.out (.int .i64 G.1) (.int .i64 b.t) (.int .i64 0) (.int .i64 0); have z0 := bx_cell s.1 0 _ rfl; have z1 := bx_cell s.1 1 _ rfl; have z2 := bx_cell s.1 2 _ rfl; have z3 := bx_cell s.1 3 _ rfl; have S := Lib.hid s.2; clear s r0 r1 r2 r3 g0 g1 g2 g3 n6 e0 b0 b1 b2 b3 HF HX; simp [bodyPost, results, Try.f48, go_sem, z0, z1, z2, z3]; exact S.out) | (have s := R.out (.int .i64 0) (.int .i64 b.t) (.int .i64 X.ub) (.int .i64 X.at_); have z0 := bx_cell s.1 0 _ rfl; have z1 := bx_cell s.1 1 _ rfl; have z2 := bx_cell s.1 2 _ rfl; have z3 := bx_cell s.1 3 _ rfl; have S := Lib.hid s.2; clear s r0 r1 r2 r3 g0 g1 g2 g3 n6 e0 b0 b1 b2 b3 HF HX; simp [bodyPost, results, Try.f48, go_sem, z0, z1, z2, z3]; exact S.out) | (have s := R.out (.int .i64 0) (.int .i64 b.t) (.int .i64 4) (.int .i64 n.place); have z0 := bx_cell s.1 0 _ rfl; have z1 := bx_cell s.1 1 _ rfl; have z2 := bx_cell s.1 2 _ rfl; have z3 := bx_cell s.1 3 _ rfl; have S := Lib.hid s.2; clear s r0 r1 r2 r3 g0 g1 g2 g3 n6 e0 b0 b1 b2 b3 HF HX; simp [bodyPost, results, Try.f48, go_sem, z0, z1, z2, z3]; exact S.out)
theorem elem_any {w : World} {lv mv bv ov obv : Value} {E : Env} {n : Ex} {X : Ans} (hE : REnvAt w mv bv ov obv E) (hk3 : n.kind = 3) (hX : ∀ w1, Kept w w1 → Calls Try.prog 28 #[lv, .int .i64 n.a, envVal mv bv ov obv E] w1 fun e w' => e = .returned (ansVal X) ∧ Kept w1 w') :
    Calls Try.prog 48 #[lv, exVal n, envVal mv bv ov obv E] w fun e w' => e = .returned (ansVal (elemA n E X)) ∧ Kept w w' := by
  cases hf : findF E.binds n.name with
  | none => exact elem_none hE hf hX
  | some b =>
    rcases hE.mem with ⟨hmv, hm⟩ | ⟨B, p, v, L, hmv, hM, hm⟩
    · exact elem_nil hE hf hmv hm hX
    · exact elem_some hE hk3 hf hmv hM hm hX
end Go.Proofs.Ytnlkcjbnmkpnhaa.Evl
namespace Go.Proofs.Ytnlkcjbnmkpnhaa.Evl
open Go.RowKit
open Typ (upF joinF wrapF doV doU rwrap_any rdo_any)
open Prs (Ex)
open Fnd (Bi BindsAt bx_cell bx_froz)

/-- What a name's or an expression's kid is told to have. -/
def ValCalls (w : World) (lv mv bv ov obv : Value) (E : Env) (at_ : Int) (X : Ans) : Prop :=
  ∀ w1, Kept w w1 → Calls Try.prog 28 #[lv, .int .i64 at_, envVal mv bv ov obv E] w1 fun e w' => e = .returned (ansVal X) ∧ Kept w1 w'
theorem ValCalls.open {w : World} {lv bv ov obv : Value} {m : Option Addr} {E : Env} {at_ : Int} {X : Ans} (h : ValCalls w lv (.pointer m) bv ov obv E at_ X) : ∀ w1, Kept w w1 → Calls Try.prog 28 #[lv, .int .i64 at_, .agg #[.pointer m, bv, ov, obv, .int .i64 E.res, .int .i64 E.t]] w1 fun e w' => e = .returned (.agg #[.int .i64 X.v, .int .i64 X.t, .int .i64 X.ub, .int .i64 X.at_]) ∧ Kept w1 w' := h
theorem wrap_zero (t : Int) : wrapF t 0 = 0 := by
  unfold wrapF
  repeat' split
  all_goals simp
theorem doA_t (k t x y p : Int) : (doA k t x y p).t = t := by unfold doA; split <;> rfl
theorem close_ub {n : Ex} {E : Env} {A B : Ans} (h : A.ub ≠ 0) : closeA n E A B = ⟨0, (nodeA n E A B).t, A.ub, A.at_⟩ := by unfold closeA; rw [if_pos h]
theorem close_ub2 {n : Ex} {E : Env} {A B : Ans} (h : A.ub = 0) (h2 : B.ub ≠ 0) : closeA n E A B = ⟨0, (nodeA n E A B).t, B.ub, B.at_⟩ := by unfold closeA; rw [if_neg (by omega), if_pos h2]
theorem close_no {n : Ex} {E : Env} {A B : Ans} (h : A.ub = 0) (h2 : B.ub = 0) : closeA n E A B = nodeA n E A B := by unfold closeA; rw [if_neg (by omega), if_neg (by omega)]
theorem node_two {n : Ex} {E : Env} {A B : Ans} (h : 8 ≤ n.kind ∧ n.kind ≤ 15) : nodeA n E A B = doA n.kind (meetF A B) (wrapF (meetF A B) A.v) (wrapF (meetF A B) B.v) n.place := by
  unfold nodeA opA
  rw [if_neg (by omega), if_neg (by omega), if_neg (by omega), if_neg (by omega), if_neg (by omega), if_pos h]
theorem node_up {n : Ex} {E : Env} {A B : Ans} (h : n.kind = 6 ∨ n.kind = 7 ∨ n.kind = 16 ∨ n.kind = 17) : nodeA n E A B = doA n.kind (upF (opdF A.t)) (wrapF (upF (opdF A.t)) A.v) B.v n.place := by
  unfold nodeA opA
  rw [if_neg (by omega), if_neg (by omega), if_neg (by omega), if_neg (by omega), if_neg (by omega), if_neg (by omega), if_pos h]
theorem mix_two {k : Int} {A B : Ans} (h : 8 ≤ k ∧ k ≤ 15) : mixF k A.t B.t = meetF A B := by unfold mixF meetF; rw [if_neg (by omega), if_pos h]
theorem mix_up {k : Int} {a b : Int} (h : k = 6 ∨ k = 7 ∨ k = 16 ∨ k = 17) : mixF k a b = upF (opdF a) := by unfold mixF; rw [if_pos h]
set_option maxRecDepth 100000 in
set_option maxHeartbeats 4000000 in
theorem node_two_any {w : World} {lv mv bv ov obv : Value} {E : Env} {n : Ex} {A B : Ans} (hE : REnvAt w mv bv ov obv E) (hk : 8 ≤ n.kind ∧ n.kind ≤ 15) (hA : ValCalls w lv mv bv ov obv E n.a A) (hB : ValCalls w lv mv bv ov obv E n.b B) :
    Calls Try.prog 49 #[lv, exVal n, envVal mv bv ov obv E] w fun e w' => e = .returned (ansVal (closeA n E A B)) ∧ Kept w w' := by
  obtain ⟨m, hm⟩ := hE.mem.form
  obtain ⟨ba, bl, bc, hbv⟩ := binds_form hE.binds
  subst hm hbv
  clear hE
  have HA := Lib.hid hA.open
  have HB := Lib.hid hB.open
  clear hA hB
  obtain ⟨K, hK⟩ : ∃ K : Int, (n.kind : Int) = K := ⟨_, rfl⟩
  have hm := mix_two (k := K) (A := A) (B := B) (by omega)
  have hT := node_two (E := E) (A := A) (B := B) hk
  rw [hK] at hT
  have hTt : (nodeA n E A B).t = meetF A B := by rw [hT, doA_t]
  generalize meetF A B = T at *
  have HM : Hid (∀ w, Calls Try.prog 66 #[.int .i64 K, .int .i64 A.t, .int .i64 B.t] w fun e w' => e = .returned (.int .i64 T) ∧ w = w') := Lib.hid fun w => by have := mixed_any K A.t B.t w; rw [hm] at this; exact this
  have HU := Lib.hid (fun w => rdo_any K T (wrapF T A.v) (wrapF T B.v) w)
  replace hk : 8 ≤ K ∧ K ≤ 15 := by omega
  unfold doA at hT
  generalize doU K T (wrapF T A.v) (wrapF T B.v) = u at *
  generalize doV K T (wrapF T A.v) (wrapF T B.v) = v at *
  rcases (show A.ub ≠ 0 ∨ (A.ub = 0 ∧ B.ub ≠ 0) ∨ (A.ub = 0 ∧ B.ub = 0 ∧ u ≠ 0) ∨ (A.ub = 0 ∧ B.ub = 0 ∧ u = 0) by omega) with hu | ⟨hu, hu2⟩ | ⟨hu, hu2, hu3⟩ | ⟨hu, hu2, rfl⟩
  case' inl => rw [close_ub hu, hTt]; have hub : (A.ub != 0) = true := (by simpa using hu); have hub2 := hub; have hub3 := hub
  case' inr.inl => rw [close_ub2 hu hu2, hTt]; have hub : (A.ub != 0) = false := (by simpa using hu); have hub2 : (B.ub != 0) = true := (by simpa using hu2); have hub3 := hub; clear hu2
  case' inr.inr.inl => rw [close_no hu hu2, hT, if_neg hu3]; have hub : (A.ub != 0) = false := (by simpa using hu); have hub2 : (B.ub != 0) = false := (by simpa using hu2); have hub3 : (u != 0) = true := (by simpa using hu3); clear hu2 hu3
  case' inr.inr.inr => rw [close_no hu hu2, hT, if_pos rfl]; have hub : (A.ub != 0) = false := (by simpa using hu); have hub2 : (B.ub != 0) = false := (by simpa using hu2); have hub3 := hub; clear hu2
  all_goals
    have hk1 : (K == 6) = false := (by simp; omega)
    have hk2 : (K == 7) = false := (by simp; omega)
    have hk3 : (K != 18) = true := (by simp; omega)
    have hk4 : (K != 16) = true := (by simp; omega)
    have hk5 : (K != 17) = true := (by simp; omega)
    have hk6 : (K == 18) = false := (by simp; omega)
    obtain ⟨hk7, hk8⟩ := hk
    clear hu hT hTt hm
    unfold ansVal envVal exVal
    rw [hK]
    clear hK
    simp only
    go_enter Try.func49, Try.ntmps49
    go_upto_region 1 with fail
    obtain ⟨x0, x1, x2, kW, hsz⟩ := three w (.cells #[.int .i64 K, .int .i64 n.num, .int .i64 n.ty, .string ⟨n.name.toArray⟩, .int .i64 n.a, .int .i64 n.b, .int .i64 n.place] 51) (.cells #[.pointer m, .slice ba bl bc, ov, obv, .int .i64 E.res, .int .i64 E.t] 35) (.cells #[.int .i64 0, .int .i64 0, .int .i64 0, .int .i64 0] 77)
    generalize (((w.alloc (.cells #[.int .i64 K, .int .i64 n.num, .int .i64 n.ty, .string ⟨n.name.toArray⟩, .int .i64 n.a, .int .i64 n.b, .int .i64 n.place] 51)).alloc (.cells #[.pointer m, .slice ba bl bc, ov, obv, .int .i64 E.res, .int .i64 E.t] 35)).alloc (.cells #[.int .i64 0, .int .i64 0, .int .i64 0, .int .i64 0] 77)) = W at *
    have n0 := bx_cell x0 0 _ rfl
    have n4 := bx_cell x0 4 _ rfl
    have e0 := bx_cell x1 0 _ rfl
    have e1 := bx_cell x1 1 _ rfl
    have e2 := bx_cell x1 2 _ rfl
    have e3 := bx_cell x1 3 _ rfl
    have e4 := bx_cell x1 4 _ rfl
    have e5 := bx_cell x1 5 _ rfl
    have Y := Lib.hid (And.intro x0 (And.intro x1 x2))
    have KW := Lib.hid kW
    clear x0 x1 x2 kW
    go_upto_region 4 with (go_at_call 28; refine (HA.out _ KW.out).mono ?_; rintro e w5 ⟨rfl, k5⟩; have K5 := Lib.hid k5; clear k5)
    have s1 := new4 (w := w5) #[.int .i64 A.v, .int .i64 A.t, .int .i64 A.ub, .int .i64 A.at_] 77 K5.out
    generalize w5.alloc (.cells #[.int .i64 A.v, .int .i64 A.t, .int .i64 A.ub, .int .i64 A.at_] 77) = W6 at *
    generalize w5.heap.size = c at *
    clear n0 n4 e0 e1 e2 e3 e4 e5 K5
    have n0 := bx_cell (kh Y.out.1 s1.2) 0 _ rfl
    have Z := Lib.hid s1
    clear s1
    go_upto_region 7 with fail
    have s2 := new4 (w := W6) #[.int .i64 0, .int .i64 5, .int .i64 0, .int .i64 0] 77 (Kept.refl W6)
    have hcd : c < W6.heap.size := (Array.getElem?_eq_some_iff.1 Z.out.1).1
    generalize W6.alloc (.cells #[.int .i64 0, .int .i64 5, .int .i64 0, .int .i64 0] 77) = W7 at *
    generalize hd : W6.heap.size = d at *
    clear n0
    have K7 := Lib.hid (Z.out.2.trans s2.2)
    have n5 := bx_cell (kh Y.out.1 K7.out) 5 _ rfl
    have e0 := bx_cell (kh Y.out.2.1 K7.out) 0 _ rfl
    have e1 := bx_cell (kh Y.out.2.1 K7.out) 1 _ rfl
    have e2 := bx_cell (kh Y.out.2.1 K7.out) 2 _ rfl
    have e3 := bx_cell (kh Y.out.2.1 K7.out) 3 _ rfl
    have e4 := bx_cell (kh Y.out.2.1 K7.out) 4 _ rfl
    have e5 := bx_cell (kh Y.out.2.1 K7.out) 5 _ rfl
    have S2 := Lib.hid s2
    clear s2
    go_upto_region 8 with (go_at_call 28; refine (HB.out _ (KW.out.trans K7.out)).mono ?_; rintro e w8 ⟨rfl, k8⟩; have K8 := Lib.hid k8; have q := kh S2.out.1 k8; have q0 := bx_cell q 0 _ rfl; have q1 := bx_cell q 1 _ rfl; have q2 := bx_cell q 2 _ rfl; have q3 := bx_cell q 3 _ rfl; have qf := bx_froz q; have Q := Lib.hid q; clear q k8)
    have s3 := put4 (w := W6) (W := w8) (i := d) (.int .i64 B.v) (.int .i64 B.t) (.int .i64 B.ub) (.int .i64 B.at_) (by omega) (S2.out.2.trans K8.out) Q.out
    generalize ((((w8.setCell ⟨d, 0, none⟩ (.int .i64 B.v)).setCell ⟨d, 1, none⟩ (.int .i64 B.t)).setCell ⟨d, 2, none⟩ (.int .i64 B.ub)).setCell ⟨d, 3, none⟩ (.int .i64 B.at_)) = W9 at *
    clear n5 e0 e1 e2 e3 e4 e5 q0 q1 q2 q3 qf K8 Q S2 K7
    have K9 := Lib.hid (Z.out.2.trans s3.2)
    have Z9 := Lib.hid (kh Z.out.1 s3.2)
    have B9 := Lib.hid s3.1
    clear s3 Z
    have n0 := bx_cell (kh Y.out.1 K9.out) 0 _ rfl
    have n2 := bx_cell (kh Y.out.1 K9.out) 2 _ rfl
    have n6 := bx_cell (kh Y.out.1 K9.out) 6 _ rfl
    have r0 := bx_cell (kh Y.out.2.2 K9.out) 0 _ rfl
    have r1 := bx_cell (kh Y.out.2.2 K9.out) 1 _ rfl
    have r2 := bx_cell (kh Y.out.2.2 K9.out) 2 _ rfl
    have r3 := bx_cell (kh Y.out.2.2 K9.out) 3 _ rfl
    have rf := bx_froz (kh Y.out.2.2 K9.out)
    have g0 := bx_cell Z9.out 0 _ rfl
    have g1 := bx_cell Z9.out 1 _ rfl
    have g2 := bx_cell Z9.out 2 _ rfl
    have g3 := bx_cell Z9.out 3 _ rfl
    have b0 := bx_cell B9.out 0 _ rfl
    have b1 := bx_cell B9.out 1 _ rfl
    have b2 := bx_cell B9.out 2 _ rfl
    have b3 := bx_cell B9.out 3 _ rfl
    have bf := bx_froz B9.out
    have R := Lib.hid (fun a b c d => put4 (w := w) a b c d (by omega) (KW.out.trans K9.out) (kh Y.out.2.2 K9.out))
    have R2 := Lib.hid (fun nq a b c d => put4 (w := w) (W := W9.drewN nq) a b c d (by omega) ((KW.out.trans K9.out).drewN nq) (kh Y.out.2.2 (K9.out.drewN nq)))
    clear Z9
    go_upto_region 22 with (first | (go_at_call 66; refine (HM.out _).mono ?_; rintro e w' ⟨rfl, rfl⟩) | (go_at_call 42; refine (rwrap_any _ _ _).mono ?_; rintro e w' ⟨rfl, rfl⟩))
    all_goals first
      | (have s := R.out (.int .i64 0) (.int .i64 T) (.int .i64 A.ub) (.int .i64 A.at_); have z0 := bx_cell s.1 0 _ rfl; have z1 := bx_cell s.1 1 _ rfl; have z2 := bx_cell s.1 2 _ rfl; have z3 := bx_cell s.1 3 _ rfl; have S := Lib.hid s.2; clear s r0 r1 r2 r3 g0 g1 g2 g3 n0 n2 n6 b0 b1 b2 b3 HA; simp [bodyPost, results, Try.f49, go_sem, z0, z1, z2, z3]; exact S.out)
      | (have s := R.out (.int .i64 0) (.int .i64 T) (.int .i64 B.ub) (.int .i64 B.at_); have z0 := bx_cell s.1 0 _ rfl; have z1 := bx_cell s.1 1 _ rfl; have z2 := bx_cell s.1 2 _ rfl; have z3 := bx_cell s.1 3 _ rfl; have S := Lib.hid s.2; clear s r0 r1 r2 r3 g0 g1 g2 g3 n0 n2 n6 b0 b1 b2 b3 HA; simp [bodyPost, results, Try.f49, go_sem, z0, z1, z2, z3]; exact S.out)
      | (go_quiet (first | (go_at_call 42; exact quiet_same0 (rwrap_any _ _ _)) | (go_at_call 67; exact quiet_same0 (HU.out _))); go_wp2; first | (have s := R2.out nq (.int .i64 0) (.int .i64 T) (.int .i64 u) (.int .i64 n.place); have z0 := bx_cell s.1 0 _ rfl; have z1 := bx_cell s.1 1 _ rfl; have z2 := bx_cell s.1 2 _ rfl; have z3 := bx_cell s.1 3 _ rfl; have S := Lib.hid s.2; clear s r0 r1 r2 r3 g0 g1 g2 g3 n0 n2 n6 b0 b1 b2 b3 HA; simp [bodyPost, results, Try.f49, go_sem, z0, z1, z2, z3]; exact S.out) | (have s := R2.out nq (.int .i64 v) (.int .i64 T) (.int .i64 0) (.int .i64 0); have z0 := bx_cell s.1 0 _ rfl; have z1 := bx_cell s.1 1 _ rfl; have z2 := bx_cell s.1 2 _ rfl; have z3 := bx_cell s.1 3 _ rfl; have S := Lib.hid s.2; clear s r0 r1 r2 r3 g0 g1 g2 g3 n0 n2 n6 b0 b1 b2 b3 HA; simp [bodyPost, results, Try.f49, go_sem, z0, z1, z2, z3]; exact S.out))
set_option maxRecDepth 100000 in
set_option maxHeartbeats 4000000 in
theorem node_sh_any {w : World} {lv mv bv ov obv : Value} {E : Env} {n : Ex} {A B : Ans} (hE : REnvAt w mv bv ov obv E) (hk : n.kind = 16 ∨ n.kind = 17) (hA : ValCalls w lv mv bv ov obv E n.a A) (hB : ValCalls w lv mv bv ov obv E n.b B) :
    Calls Try.prog 49 #[lv, exVal n, envVal mv bv ov obv E] w fun e w' => e = .returned (ansVal (closeA n E A B)) ∧ Kept w w' := by
  obtain ⟨m, hm⟩ := hE.mem.form
  obtain ⟨ba, bl, bc, hbv⟩ := binds_form hE.binds
  subst hm hbv
  clear hE
  have HA := Lib.hid hA.open
  have HB := Lib.hid hB.open
  clear hA hB
  obtain ⟨K, hK⟩ : ∃ K : Int, (n.kind : Int) = K := ⟨_, rfl⟩
  have hm := mix_up (k := K) (a := A.t) (b := B.t) (by omega)
  have hT := node_up (n := n) (E := E) (A := A) (B := B) (by omega)
  rw [hK] at hT
  have hTt : (nodeA n E A B).t = upF (opdF A.t) := by rw [hT, doA_t]
  generalize upF (opdF A.t) = T at *
  have HM : Hid (∀ w, Calls Try.prog 66 #[.int .i64 K, .int .i64 A.t, .int .i64 B.t] w fun e w' => e = .returned (.int .i64 T) ∧ w = w') := Lib.hid fun w => by have := mixed_any K A.t B.t w; rw [hm] at this; exact this
  have HU := Lib.hid (fun w => rdo_any K T (wrapF T A.v) B.v w)
  replace hk : K = 16 ∨ K = 17 := by omega
  unfold doA at hT
  generalize doU K T (wrapF T A.v) B.v = u at *
  generalize doV K T (wrapF T A.v) B.v = v at *
  rcases (show A.ub ≠ 0 ∨ (A.ub = 0 ∧ B.ub ≠ 0) ∨ (A.ub = 0 ∧ B.ub = 0 ∧ u ≠ 0) ∨ (A.ub = 0 ∧ B.ub = 0 ∧ u = 0) by omega) with hu | ⟨hu, hu2⟩ | ⟨hu, hu2, hu3⟩ | ⟨hu, hu2, rfl⟩
  case' inl => rw [close_ub hu, hTt]; have hub : (A.ub != 0) = true := (by simpa using hu); have hub2 := hub; have hub3 := hub
  case' inr.inl => rw [close_ub2 hu hu2, hTt]; have hub : (A.ub != 0) = false := (by simpa using hu); have hub2 : (B.ub != 0) = true := (by simpa using hu2); have hub3 := hub; clear hu2
  case' inr.inr.inl => rw [close_no hu hu2, hT, if_neg hu3]; have hub : (A.ub != 0) = false := (by simpa using hu); have hub2 : (B.ub != 0) = false := (by simpa using hu2); have hub3 : (u != 0) = true := (by simpa using hu3); clear hu2 hu3
  case' inr.inr.inr => rw [close_no hu hu2, hT, if_pos rfl]; have hub : (A.ub != 0) = false := (by simpa using hu); have hub2 : (B.ub != 0) = false := (by simpa using hu2); have hub3 := hub; clear hu2
  all_goals
    clear hu hT hTt hm
    unfold ansVal envVal exVal
    rw [hK]
    clear hK
    simp only
  all_goals rcases hk with hk | hk
  all_goals first
    | (have hk4 : (K != 16) = false := (by simp; omega))
    | (have hk4 : (K != 16) = true := (by simp; omega); have hk5 : (K != 17) = false := (by simp; omega))
  all_goals
    have hk1 : (K == 6) = false := (by simp; omega)
    have hk2 : (K == 7) = false := (by simp; omega)
    have hk6 : (K == 18) = false := (by simp; omega); have hk3 : (K != 18) = true := (by simp; omega)
    have hk7 : 16 ≤ K := by omega
    have hk8 : K ≤ 17 := by omega
    clear hk
    go_enter Try.func49, Try.ntmps49
    go_upto_region 1 with fail
    obtain ⟨x0, x1, x2, kW, hsz⟩ := three w (.cells #[.int .i64 K, .int .i64 n.num, .int .i64 n.ty, .string ⟨n.name.toArray⟩, .int .i64 n.a, .int .i64 n.b, .int .i64 n.place] 51) (.cells #[.pointer m, .slice ba bl bc, ov, obv, .int .i64 E.res, .int .i64 E.t] 35) (.cells #[.int .i64 0, .int .i64 0, .int .i64 0, .int .i64 0] 77)
    generalize (((w.alloc (.cells #[.int .i64 K, .int .i64 n.num, .int .i64 n.ty, .string ⟨n.name.toArray⟩, .int .i64 n.a, .int .i64 n.b, .int .i64 n.place] 51)).alloc (.cells #[.pointer m, .slice ba bl bc, ov, obv, .int .i64 E.res, .int .i64 E.t] 35)).alloc (.cells #[.int .i64 0, .int .i64 0, .int .i64 0, .int .i64 0] 77)) = W at *
    have n0 := bx_cell x0 0 _ rfl
    have n4 := bx_cell x0 4 _ rfl
    have e0 := bx_cell x1 0 _ rfl
    have e1 := bx_cell x1 1 _ rfl
    have e2 := bx_cell x1 2 _ rfl
    have e3 := bx_cell x1 3 _ rfl
    have e4 := bx_cell x1 4 _ rfl
    have e5 := bx_cell x1 5 _ rfl
    have Y := Lib.hid (And.intro x0 (And.intro x1 x2))
    have KW := Lib.hid kW
    clear x0 x1 x2 kW
    go_upto_region 4 with (go_at_call 28; refine (HA.out _ KW.out).mono ?_; rintro e w5 ⟨rfl, k5⟩; have K5 := Lib.hid k5; clear k5)
    have s1 := new4 (w := w5) #[.int .i64 A.v, .int .i64 A.t, .int .i64 A.ub, .int .i64 A.at_] 77 K5.out
    generalize w5.alloc (.cells #[.int .i64 A.v, .int .i64 A.t, .int .i64 A.ub, .int .i64 A.at_] 77) = W6 at *
    generalize w5.heap.size = c at *
    clear n0 n4 e0 e1 e2 e3 e4 e5 K5
    have n0 := bx_cell (kh Y.out.1 s1.2) 0 _ rfl
    have Z := Lib.hid s1
    clear s1
    go_upto_region 7 with fail
    have s2 := new4 (w := W6) #[.int .i64 0, .int .i64 5, .int .i64 0, .int .i64 0] 77 (Kept.refl W6)
    have hcd : c < W6.heap.size := (Array.getElem?_eq_some_iff.1 Z.out.1).1
    generalize W6.alloc (.cells #[.int .i64 0, .int .i64 5, .int .i64 0, .int .i64 0] 77) = W7 at *
    generalize hd : W6.heap.size = d at *
    clear n0
    have K7 := Lib.hid (Z.out.2.trans s2.2)
    have n5 := bx_cell (kh Y.out.1 K7.out) 5 _ rfl
    have e0 := bx_cell (kh Y.out.2.1 K7.out) 0 _ rfl
    have e1 := bx_cell (kh Y.out.2.1 K7.out) 1 _ rfl
    have e2 := bx_cell (kh Y.out.2.1 K7.out) 2 _ rfl
    have e3 := bx_cell (kh Y.out.2.1 K7.out) 3 _ rfl
    have e4 := bx_cell (kh Y.out.2.1 K7.out) 4 _ rfl
    have e5 := bx_cell (kh Y.out.2.1 K7.out) 5 _ rfl
    have S2 := Lib.hid s2
    clear s2
    go_upto_region 8 with (go_at_call 28; refine (HB.out _ (KW.out.trans K7.out)).mono ?_; rintro e w8 ⟨rfl, k8⟩; have K8 := Lib.hid k8; have q := kh S2.out.1 k8; have q0 := bx_cell q 0 _ rfl; have q1 := bx_cell q 1 _ rfl; have q2 := bx_cell q 2 _ rfl; have q3 := bx_cell q 3 _ rfl; have qf := bx_froz q; have Q := Lib.hid q; clear q k8)
    have s3 := put4 (w := W6) (W := w8) (i := d) (.int .i64 B.v) (.int .i64 B.t) (.int .i64 B.ub) (.int .i64 B.at_) (by omega) (S2.out.2.trans K8.out) Q.out
    generalize ((((w8.setCell ⟨d, 0, none⟩ (.int .i64 B.v)).setCell ⟨d, 1, none⟩ (.int .i64 B.t)).setCell ⟨d, 2, none⟩ (.int .i64 B.ub)).setCell ⟨d, 3, none⟩ (.int .i64 B.at_)) = W9 at *
    clear n5 e0 e1 e2 e3 e4 e5 q0 q1 q2 q3 qf K8 Q S2 K7
    have K9 := Lib.hid (Z.out.2.trans s3.2)
    have Z9 := Lib.hid (kh Z.out.1 s3.2)
    have B9 := Lib.hid s3.1
    clear s3 Z
    have n0 := bx_cell (kh Y.out.1 K9.out) 0 _ rfl
    have n2 := bx_cell (kh Y.out.1 K9.out) 2 _ rfl
    have n6 := bx_cell (kh Y.out.1 K9.out) 6 _ rfl
    have r0 := bx_cell (kh Y.out.2.2 K9.out) 0 _ rfl
    have r1 := bx_cell (kh Y.out.2.2 K9.out) 1 _ rfl
    have r2 := bx_cell (kh Y.out.2.2 K9.out) 2 _ rfl
    have r3 := bx_cell (kh Y.out.2.2 K9.out) 3 _ rfl
    have rf := bx_froz (kh Y.out.2.2 K9.out)
    have g0 := bx_cell Z9.out 0 _ rfl
    have g1 := bx_cell Z9.out 1 _ rfl
    have g2 := bx_cell Z9.out 2 _ rfl
    have g3 := bx_cell Z9.out 3 _ rfl
    have b0 := bx_cell B9.out 0 _ rfl
    have b1 := bx_cell B9.out 1 _ rfl
    have b2 := bx_cell B9.out 2 _ rfl
    have b3 := bx_cell B9.out 3 _ rfl
    have bf := bx_froz B9.out
    have R := Lib.hid (fun a b c d => put4 (w := w) a b c d (by omega) (KW.out.trans K9.out) (kh Y.out.2.2 K9.out))
    have R2 := Lib.hid (fun nq a b c d => put4 (w := w) (W := W9.drewN nq) a b c d (by omega) ((KW.out.trans K9.out).drewN nq) (kh Y.out.2.2 (K9.out.drewN nq)))
    clear Z9
    go_upto_region 22 with (first | (go_at_call 66; refine (HM.out _).mono ?_; rintro e w' ⟨rfl, rfl⟩) | (go_at_call 42; refine (rwrap_any _ _ _).mono ?_; rintro e w' ⟨rfl, rfl⟩))
    all_goals first
      | (have s := R.out (.int .i64 0) (.int .i64 T) (.int .i64 A.ub) (.int .i64 A.at_); have z0 := bx_cell s.1 0 _ rfl; have z1 := bx_cell s.1 1 _ rfl; have z2 := bx_cell s.1 2 _ rfl; have z3 := bx_cell s.1 3 _ rfl; have S := Lib.hid s.2; clear s r0 r1 r2 r3 g0 g1 g2 g3 n0 n2 n6 b0 b1 b2 b3 HA; simp [bodyPost, results, Try.f49, go_sem, z0, z1, z2, z3]; exact S.out)
      | (have s := R.out (.int .i64 0) (.int .i64 T) (.int .i64 B.ub) (.int .i64 B.at_); have z0 := bx_cell s.1 0 _ rfl; have z1 := bx_cell s.1 1 _ rfl; have z2 := bx_cell s.1 2 _ rfl; have z3 := bx_cell s.1 3 _ rfl; have S := Lib.hid s.2; clear s r0 r1 r2 r3 g0 g1 g2 g3 n0 n2 n6 b0 b1 b2 b3 HA; simp [bodyPost, results, Try.f49, go_sem, z0, z1, z2, z3]; exact S.out)
      | (go_quiet (first | (go_at_call 42; exact quiet_same0 (rwrap_any _ _ _)) | (go_at_call 67; exact quiet_same0 (HU.out _))); go_wp2; first | (have s := R2.out nq (.int .i64 0) (.int .i64 T) (.int .i64 u) (.int .i64 n.place); have z0 := bx_cell s.1 0 _ rfl; have z1 := bx_cell s.1 1 _ rfl; have z2 := bx_cell s.1 2 _ rfl; have z3 := bx_cell s.1 3 _ rfl; have S := Lib.hid s.2; clear s r0 r1 r2 r3 g0 g1 g2 g3 n0 n2 n6 b0 b1 b2 b3 HA; simp [bodyPost, results, Try.f49, go_sem, z0, z1, z2, z3]; exact S.out) | (have s := R2.out nq (.int .i64 v) (.int .i64 T) (.int .i64 0) (.int .i64 0); have z0 := bx_cell s.1 0 _ rfl; have z1 := bx_cell s.1 1 _ rfl; have z2 := bx_cell s.1 2 _ rfl; have z3 := bx_cell s.1 3 _ rfl; have S := Lib.hid s.2; clear s r0 r1 r2 r3 g0 g1 g2 g3 n0 n2 n6 b0 b1 b2 b3 HA; simp [bodyPost, results, Try.f49, go_sem, z0, z1, z2, z3]; exact S.out))
theorem put1r {w W : World} {i : Nat} {x0 x1 x2 x3 : Value} {t : TypeId} (a : Value) (hi : w.heap.size ≤ i) (hk : Kept w W) (h4 : W.heap[i]? = some (.cells #[x0, x1, x2, x3] t (0, 0))) :
    (W.setCell ⟨i, 0, none⟩ a).heap[i]? = some (.cells #[a, x1, x2, x3] t (0, 0)) ∧ Kept w (W.setCell ⟨i, 0, none⟩ a) := by
  have e1 := heap_setCell_same W i 0 _ _ a h4
  exact ⟨by simpa using e1, Below.setCell hk (p := ⟨i, 0, none⟩) hi a⟩
set_option maxRecDepth 100000 in
set_option maxHeartbeats 4000000 in
theorem node_un_any {w : World} {lv mv bv ov obv : Value} {E : Env} {n : Ex} {A : Ans} (hE : REnvAt w mv bv ov obv E) (hk : n.kind = 6 ∨ n.kind = 7) (hA : ValCalls w lv mv bv ov obv E n.a A) :
    Calls Try.prog 49 #[lv, exVal n, envVal mv bv ov obv E] w fun e w' => e = .returned (ansVal (closeA n E A Ans.none)) ∧ Kept w w' := by
  obtain ⟨m, hm⟩ := hE.mem.form
  obtain ⟨ba, bl, bc, hbv⟩ := binds_form hE.binds
  subst hm hbv
  clear hE
  have HA := Lib.hid hA.open
  clear hA
  obtain ⟨K, hK⟩ : ∃ K : Int, (n.kind : Int) = K := ⟨_, rfl⟩
  have hm := mix_up (k := K) (a := A.t) (b := 5) (by omega)
  have hT := node_up (n := n) (E := E) (A := A) (B := Ans.none) (by omega)
  rw [hK] at hT
  have hTt : (nodeA n E A Ans.none).t = upF (opdF A.t) := by rw [hT, doA_t]
  generalize upF (opdF A.t) = T at *
  rw [show Ans.none.v = wrapF T 0 from (wrap_zero T).symm] at hT
  have HM : Hid (∀ w, Calls Try.prog 66 #[.int .i64 K, .int .i64 A.t, .int .i64 5] w fun e w' => e = .returned (.int .i64 T) ∧ w = w') := Lib.hid fun w => by have := mixed_any K A.t 5 w; rw [hm] at this; exact this
  have HU := Lib.hid (fun w => rdo_any K T (wrapF T A.v) (wrapF T 0) w)
  replace hk : K = 6 ∨ K = 7 := by omega
  unfold doA at hT
  generalize doU K T (wrapF T A.v) (wrapF T 0) = u at *
  generalize doV K T (wrapF T A.v) (wrapF T 0) = v at *
  rcases (show A.ub ≠ 0 ∨ (A.ub = 0 ∧ u ≠ 0) ∨ (A.ub = 0 ∧ u = 0) by omega) with hu | ⟨hu, hu3⟩ | ⟨hu, rfl⟩
  case' inl => rw [close_ub hu, hTt]; have hub : (A.ub != 0) = true := (by simpa using hu); have hub3 := hub
  case' inr.inl => rw [close_no hu rfl, hT, if_neg hu3]; have hub : (A.ub != 0) = false := (by simpa using hu); have hub3 : (u != 0) = true := (by simpa using hu3); clear hu3
  case' inr.inr => rw [close_no hu rfl, hT, if_pos rfl]; have hub : (A.ub != 0) = false := (by simpa using hu); have hub3 := hub
  all_goals
    clear hu hT hTt hm
    unfold ansVal envVal exVal
    rw [hK]
    clear hK
    simp only
  all_goals rcases hk with hk | hk
  all_goals first
    | (have hk1 : (K == 6) = true := (by simp; omega))
    | (have hk1 : (K == 6) = false := (by simp; omega); have hk2 : (K == 7) = true := (by simp; omega))
  all_goals
    have hk6 : (K == 18) = false := (by simp; omega); have hk3 : (K != 18) = true := (by simp; omega)
    have hk4 : (K != 16) = true := (by simp; omega)
    have hk5 : (K != 17) = true := (by simp; omega)
    have hk7 : 6 ≤ K := by omega
    have hk8 : K ≤ 7 := by omega
    clear hk
    go_enter Try.func49, Try.ntmps49
    go_upto_region 1 with fail
    obtain ⟨x0, x1, x2, kW, hsz⟩ := three w (.cells #[.int .i64 K, .int .i64 n.num, .int .i64 n.ty, .string ⟨n.name.toArray⟩, .int .i64 n.a, .int .i64 n.b, .int .i64 n.place] 51) (.cells #[.pointer m, .slice ba bl bc, ov, obv, .int .i64 E.res, .int .i64 E.t] 35) (.cells #[.int .i64 0, .int .i64 0, .int .i64 0, .int .i64 0] 77)
    generalize (((w.alloc (.cells #[.int .i64 K, .int .i64 n.num, .int .i64 n.ty, .string ⟨n.name.toArray⟩, .int .i64 n.a, .int .i64 n.b, .int .i64 n.place] 51)).alloc (.cells #[.pointer m, .slice ba bl bc, ov, obv, .int .i64 E.res, .int .i64 E.t] 35)).alloc (.cells #[.int .i64 0, .int .i64 0, .int .i64 0, .int .i64 0] 77)) = W at *
    have n0 := bx_cell x0 0 _ rfl
    have n4 := bx_cell x0 4 _ rfl
    have e0 := bx_cell x1 0 _ rfl
    have e1 := bx_cell x1 1 _ rfl
    have e2 := bx_cell x1 2 _ rfl
    have e3 := bx_cell x1 3 _ rfl
    have e4 := bx_cell x1 4 _ rfl
    have e5 := bx_cell x1 5 _ rfl
    have Y := Lib.hid (And.intro x0 (And.intro x1 x2))
    have KW := Lib.hid kW
    clear x0 x1 x2 kW
    go_upto_region 4 with (go_at_call 28; refine (HA.out _ KW.out).mono ?_; rintro e w5 ⟨rfl, k5⟩; have K5 := Lib.hid k5; clear k5)
    have s1 := new4 (w := w5) #[.int .i64 A.v, .int .i64 A.t, .int .i64 A.ub, .int .i64 A.at_] 77 K5.out
    generalize w5.alloc (.cells #[.int .i64 A.v, .int .i64 A.t, .int .i64 A.ub, .int .i64 A.at_] 77) = W6 at *
    generalize w5.heap.size = c at *
    clear n0 n4 e0 e1 e2 e3 e4 e5 K5
    have n0 := bx_cell (kh Y.out.1 s1.2) 0 _ rfl
    have Z := Lib.hid s1
    clear s1
    go_upto_region 8 with fail
    clear n0
    have s3 := new4 (w := W6) #[.int .i64 0, .int .i64 5, .int .i64 0, .int .i64 0] 77 (Kept.refl W6)
    have hcd : c < W6.heap.size := (Array.getElem?_eq_some_iff.1 Z.out.1).1
    generalize W6.alloc (.cells #[.int .i64 0, .int .i64 5, .int .i64 0, .int .i64 0] 77) = W9 at *
    generalize hd : W6.heap.size = d at *
    have h1 := bx_cell (kh Z.out.1 s3.2) 1 _ rfl
    have m0 := bx_cell s3.1 0 _ rfl
    have m1 := bx_cell s3.1 1 _ rfl
    have hf := bx_froz s3.1
    have n0 := bx_cell (kh Y.out.1 (Z.out.2.trans s3.2)) 0 _ rfl
    have n2' := bx_cell (kh Y.out.1 (Z.out.2.trans s3.2)) 2 _ rfl
    go_upto_region 13 with (go_at_call 66; refine (HM.out _).mono ?_; rintro e w' ⟨rfl, rfl⟩)
    have s4 := put1r (w := W6) (W := W9) (i := d) (.int .i64 0) (by omega) s3.2 s3.1
    generalize W9.setCell ⟨d, 0, none⟩ (.int .i64 0) = W10 at *
    clear s3 n0 n2' m0 m1 h1 hf
    have s3 := s4
    clear s4
    have K9 := Lib.hid (Z.out.2.trans s3.2)
    have Z9 := Lib.hid (kh Z.out.1 s3.2)
    have B9 := Lib.hid s3.1
    clear s3 Z
    have n0 := bx_cell (kh Y.out.1 K9.out) 0 _ rfl
    have n2 := bx_cell (kh Y.out.1 K9.out) 2 _ rfl
    have n6 := bx_cell (kh Y.out.1 K9.out) 6 _ rfl
    have r0 := bx_cell (kh Y.out.2.2 K9.out) 0 _ rfl
    have r1 := bx_cell (kh Y.out.2.2 K9.out) 1 _ rfl
    have r2 := bx_cell (kh Y.out.2.2 K9.out) 2 _ rfl
    have r3 := bx_cell (kh Y.out.2.2 K9.out) 3 _ rfl
    have rf := bx_froz (kh Y.out.2.2 K9.out)
    have g0 := bx_cell Z9.out 0 _ rfl
    have g1 := bx_cell Z9.out 1 _ rfl
    have g2 := bx_cell Z9.out 2 _ rfl
    have g3 := bx_cell Z9.out 3 _ rfl
    have b0 := bx_cell B9.out 0 _ rfl
    have b1 := bx_cell B9.out 1 _ rfl
    have b2 := bx_cell B9.out 2 _ rfl
    have b3 := bx_cell B9.out 3 _ rfl
    have bf := bx_froz B9.out
    have R := Lib.hid (fun a b c d => put4 (w := w) a b c d (by omega) (KW.out.trans K9.out) (kh Y.out.2.2 K9.out))
    have R2 := Lib.hid (fun nq a b c d => put4 (w := w) (W := W10.drewN nq) a b c d (by omega) ((KW.out.trans K9.out).drewN nq) (kh Y.out.2.2 (K9.out.drewN nq)))
    clear Z9
    go_upto_region 22 with (go_at_call 42; refine (rwrap_any _ _ _).mono ?_; rintro e w' ⟨rfl, rfl⟩)
    all_goals first
      | (have s := R.out (.int .i64 0) (.int .i64 T) (.int .i64 A.ub) (.int .i64 A.at_); have z0 := bx_cell s.1 0 _ rfl; have z1 := bx_cell s.1 1 _ rfl; have z2 := bx_cell s.1 2 _ rfl; have z3 := bx_cell s.1 3 _ rfl; have S := Lib.hid s.2; clear s r0 r1 r2 r3 g0 g1 g2 g3 n0 n2 n6 b0 b1 b2 b3 HA; simp [bodyPost, results, Try.f49, go_sem, z0, z1, z2, z3]; exact S.out)
      | (go_quiet (first | (go_at_call 42; exact quiet_same0 (rwrap_any _ _ _)) | (go_at_call 67; exact quiet_same0 (HU.out _))); go_wp2; first | (have s := R2.out nq (.int .i64 0) (.int .i64 T) (.int .i64 u) (.int .i64 n.place); have z0 := bx_cell s.1 0 _ rfl; have z1 := bx_cell s.1 1 _ rfl; have z2 := bx_cell s.1 2 _ rfl; have z3 := bx_cell s.1 3 _ rfl; have S := Lib.hid s.2; clear s r0 r1 r2 r3 g0 g1 g2 g3 n0 n2 n6 b0 b1 b2 b3 HA; simp [bodyPost, results, Try.f49, go_sem, z0, z1, z2, z3]; exact S.out) | (have s := R2.out nq (.int .i64 v) (.int .i64 T) (.int .i64 0) (.int .i64 0); have z0 := bx_cell s.1 0 _ rfl; have z1 := bx_cell s.1 1 _ rfl; have z2 := bx_cell s.1 2 _ rfl; have z3 := bx_cell s.1 3 _ rfl; have S := Lib.hid s.2; clear s r0 r1 r2 r3 g0 g1 g2 g3 n0 n2 n6 b0 b1 b2 b3 HA; simp [bodyPost, results, Try.f49, go_sem, z0, z1, z2, z3]; exact S.out))
set_option maxRecDepth 100000 in
set_option maxHeartbeats 4000000 in
theorem node_cast_any {w : World} {lv mv bv ov obv : Value} {E : Env} {n : Ex} {A : Ans} (hE : REnvAt w mv bv ov obv E) (hk : n.kind = 18) (hA : ValCalls w lv mv bv ov obv E n.a A) :
    Calls Try.prog 49 #[lv, exVal n, envVal mv bv ov obv E] w fun e w' => e = .returned (ansVal (closeA n E A Ans.none)) ∧ Kept w w' := by
  obtain ⟨m, hm⟩ := hE.mem.form
  obtain ⟨ba, bl, bc, hbv⟩ := binds_form hE.binds
  subst hm hbv
  clear hE
  have HA := Lib.hid hA.open
  clear hA
  have hT : nodeA n E A Ans.none = ⟨wrapF n.ty A.v, n.ty, 0, 0⟩ := by
    unfold nodeA
    rw [if_neg (by omega), if_neg (by omega), if_neg (by omega), if_neg (by omega), if_pos hk]
  have hTt : (nodeA n E A Ans.none).t = n.ty := by rw [hT]
  have hK : (n.kind : Int) = 18 := by omega
  rcases (show A.ub ≠ 0 ∨ A.ub = 0 by omega) with hu | hu
  case' inl => rw [close_ub hu, hTt]; have hub : (A.ub != 0) = true := (by simpa using hu)
  case' inr => rw [close_no hu rfl, hT]; have hub : (A.ub != 0) = false := (by simpa using hu)
  all_goals
    clear hu hT hTt hk
    unfold ansVal envVal exVal
    rw [hK]
    clear hK
    simp only
    go_enter Try.func49, Try.ntmps49
    go_upto_region 1 with fail
    obtain ⟨x0, x1, x2, kW, hsz⟩ := three w (.cells #[.int .i64 18, .int .i64 n.num, .int .i64 n.ty, .string ⟨n.name.toArray⟩, .int .i64 n.a, .int .i64 n.b, .int .i64 n.place] 51) (.cells #[.pointer m, .slice ba bl bc, ov, obv, .int .i64 E.res, .int .i64 E.t] 35) (.cells #[.int .i64 0, .int .i64 0, .int .i64 0, .int .i64 0] 77)
    generalize (((w.alloc (.cells #[.int .i64 18, .int .i64 n.num, .int .i64 n.ty, .string ⟨n.name.toArray⟩, .int .i64 n.a, .int .i64 n.b, .int .i64 n.place] 51)).alloc (.cells #[.pointer m, .slice ba bl bc, ov, obv, .int .i64 E.res, .int .i64 E.t] 35)).alloc (.cells #[.int .i64 0, .int .i64 0, .int .i64 0, .int .i64 0] 77)) = W at *
    have n0 := bx_cell x0 0 _ rfl
    have n4 := bx_cell x0 4 _ rfl
    have e0 := bx_cell x1 0 _ rfl
    have e1 := bx_cell x1 1 _ rfl
    have e2 := bx_cell x1 2 _ rfl
    have e3 := bx_cell x1 3 _ rfl
    have e4 := bx_cell x1 4 _ rfl
    have e5 := bx_cell x1 5 _ rfl
    have Y := Lib.hid (And.intro x0 (And.intro x1 x2))
    have KW := Lib.hid kW
    clear x0 x1 x2 kW
    go_upto_region 4 with (go_at_call 28; refine (HA.out _ KW.out).mono ?_; rintro e w5 ⟨rfl, k5⟩; have K5 := Lib.hid k5; clear k5)
    have s1 := new4 (w := w5) #[.int .i64 A.v, .int .i64 A.t, .int .i64 A.ub, .int .i64 A.at_] 77 K5.out
    generalize w5.alloc (.cells #[.int .i64 A.v, .int .i64 A.t, .int .i64 A.ub, .int .i64 A.at_] 77) = W6 at *
    generalize w5.heap.size = c at *
    clear n0 n4 e0 e1 e2 e3 e4 e5 K5
    have n0 := bx_cell (kh Y.out.1 s1.2) 0 _ rfl
    have Z := Lib.hid s1
    clear s1
    go_upto_region 8 with fail
    have s3 := new4 (w := W6) #[.int .i64 0, .int .i64 5, .int .i64 0, .int .i64 0] 77 (Kept.refl W6)
    have hcd : c < W6.heap.size := (Array.getElem?_eq_some_iff.1 Z.out.1).1
    generalize W6.alloc (.cells #[.int .i64 0, .int .i64 5, .int .i64 0, .int .i64 0] 77) = W9 at *
    generalize hd : W6.heap.size = d at *
    clear n0
    have K9 := Lib.hid (Z.out.2.trans s3.2)
    have Z9 := Lib.hid (kh Z.out.1 s3.2)
    have B9 := Lib.hid s3.1
    clear s3 Z
    have n0 := bx_cell (kh Y.out.1 K9.out) 0 _ rfl
    have n2 := bx_cell (kh Y.out.1 K9.out) 2 _ rfl
    have n6 := bx_cell (kh Y.out.1 K9.out) 6 _ rfl
    have r0 := bx_cell (kh Y.out.2.2 K9.out) 0 _ rfl
    have r1 := bx_cell (kh Y.out.2.2 K9.out) 1 _ rfl
    have r2 := bx_cell (kh Y.out.2.2 K9.out) 2 _ rfl
    have r3 := bx_cell (kh Y.out.2.2 K9.out) 3 _ rfl
    have rf := bx_froz (kh Y.out.2.2 K9.out)
    have g0 := bx_cell Z9.out 0 _ rfl
    have g1 := bx_cell Z9.out 1 _ rfl
    have g2 := bx_cell Z9.out 2 _ rfl
    have g3 := bx_cell Z9.out 3 _ rfl
    have b0 := bx_cell B9.out 0 _ rfl
    have b1 := bx_cell B9.out 1 _ rfl
    have b2 := bx_cell B9.out 2 _ rfl
    have b3 := bx_cell B9.out 3 _ rfl
    have bf := bx_froz B9.out
    have R := Lib.hid (fun a b c d => put4 (w := w) a b c d (by omega) (KW.out.trans K9.out) (kh Y.out.2.2 K9.out))
    have R2 := Lib.hid (fun nq a b c d => put4 (w := w) (W := W9.drewN nq) a b c d (by omega) ((KW.out.trans K9.out).drewN nq) (kh Y.out.2.2 (K9.out.drewN nq)))
    clear Z9
    go_wp2_with (go_at_call 42; refine (rwrap_any _ _ _).mono ?_; rintro e w' ⟨rfl, rfl⟩)
    first
      | (have s := R.out (.int .i64 0) (.int .i64 n.ty) (.int .i64 A.ub) (.int .i64 A.at_); have z0 := bx_cell s.1 0 _ rfl; have z1 := bx_cell s.1 1 _ rfl; have z2 := bx_cell s.1 2 _ rfl; have z3 := bx_cell s.1 3 _ rfl; have S := Lib.hid s.2; clear s r0 r1 r2 r3 g0 g1 g2 g3 n0 n2 n6 b0 b1 b2 b3 HA; simp [bodyPost, results, Try.f49, go_sem, z0, z1, z2, z3]; exact S.out)
      | (have s := R.out (.int .i64 (wrapF n.ty A.v)) (.int .i64 n.ty) (.int .i64 0) (.int .i64 0); have z0 := bx_cell s.1 0 _ rfl; have z1 := bx_cell s.1 1 _ rfl; have z2 := bx_cell s.1 2 _ rfl; have z3 := bx_cell s.1 3 _ rfl; have S := Lib.hid s.2; clear s r0 r1 r2 r3 g0 g1 g2 g3 n0 n2 n6 b0 b1 b2 b3 HA; simp [bodyPost, results, Try.f49, go_sem, z0, z1, z2, z3]; exact S.out)
set_option maxRecDepth 100000 in
set_option maxHeartbeats 4000000 in
theorem node_no_any {w : World} {lv mv bv ov obv : Value} {E : Env} {n : Ex} (hE : REnvAt w mv bv ov obv E) (hk : n.kind = 0 ∨ 18 < n.kind) :
    Calls Try.prog 49 #[lv, exVal n, envVal mv bv ov obv E] w fun e w' => e = .returned (ansVal (closeA n E Ans.none Ans.none)) ∧ Kept w w' := by
  obtain ⟨m, hm⟩ := hE.mem.form
  obtain ⟨ba, bl, bc, hbv⟩ := binds_form hE.binds
  subst hm hbv
  clear hE
  have hT : closeA n E Ans.none Ans.none = Ans.none := by
    rw [close_no rfl rfl]
    unfold nodeA opA
    rw [if_neg (by omega), if_neg (by omega), if_neg (by omega), if_neg (by omega), if_neg (by omega), if_neg (by omega), if_neg (by omega)]
  rw [hT]
  obtain ⟨K, hK⟩ : ∃ K : Int, (n.kind : Int) = K := ⟨_, rfl⟩
  unfold ansVal envVal exVal Ans.none
  rw [hK]
  rcases hk with hk | hk
  all_goals
    clear hT
    have h1 : K < 6 ∨ 18 < K := by omega
    clear hk hK
    simp only
    rcases h1 with h1 | h1
  all_goals
    go_enter Try.func49, Try.ntmps49
    go_upto_region 1 with fail
    obtain ⟨x0, x1, x2, kW, hsz⟩ := three w (.cells #[.int .i64 K, .int .i64 n.num, .int .i64 n.ty, .string ⟨n.name.toArray⟩, .int .i64 n.a, .int .i64 n.b, .int .i64 n.place] 51) (.cells #[.pointer m, .slice ba bl bc, ov, obv, .int .i64 E.res, .int .i64 E.t] 35) (.cells #[.int .i64 0, .int .i64 0, .int .i64 0, .int .i64 0] 77)
    generalize (((w.alloc (.cells #[.int .i64 K, .int .i64 n.num, .int .i64 n.ty, .string ⟨n.name.toArray⟩, .int .i64 n.a, .int .i64 n.b, .int .i64 n.place] 51)).alloc (.cells #[.pointer m, .slice ba bl bc, ov, obv, .int .i64 E.res, .int .i64 E.t] 35)).alloc (.cells #[.int .i64 0, .int .i64 0, .int .i64 0, .int .i64 0] 77)) = W at *
    have n0 := bx_cell x0 0 _ rfl
    have r0 := bx_cell x2 0 _ rfl
    have r1 := bx_cell x2 1 _ rfl
    have r2 := bx_cell x2 2 _ rfl
    have r3 := bx_cell x2 3 _ rfl
    have rf := bx_froz x2
    have s := put4 (w := w) (.int .i64 0) (.int .i64 5) (.int .i64 0) (.int .i64 0) (by omega) kW x2
    clear x0 x1 x2 kW
    have S := Lib.hid s
    clear s
    go_wp2
    have z0 := bx_cell S.out.1 0 _ rfl
    have z1 := bx_cell S.out.1 1 _ rfl
    have z2 := bx_cell S.out.1 2 _ rfl
    have z3 := bx_cell S.out.1 3 _ rfl
    clear r0 r1 r2 r3 n0
    simp [bodyPost, results, Try.f49, go_sem, z0, z1, z2, z3]
    exact S.out.2
end Go.Proofs.Ytnlkcjbnmkpnhaa.Evl
namespace Go.Proofs.Ytnlkcjbnmkpnhaa.Evl
open Go.RowKit
open Typ (upF joinF wrapF doV doU)
open Prs (Ex)
open Fnd (Bi BindsAt findF foundV biVal bx_cell bx_froz)
open Mem (Bk MemAt getV)

theorem past_past (E : Env) : E.past.past = E.past := rfl
/-- What was asked at the second time is what is asked of the past. -/
theorem val_past (l : List Ex) : ∀ (f : Nat) (E : Env) (s : Int), valF l E f (s, 1) = valF l E.past f (s, 0) := by
  intro f
  induction f with
  | zero => intro E s; rfl
  | succ f ih =>
    intro E s
    rw [val_succ, val_succ]
    by_cases h0 : 0 ≤ s
    · rw [if_pos h0, if_pos h0]
      cases hx : l[s.toNat]? with
      | none => rfl
      | some x =>
        show closeA x E.past (valF l E f (kidA x 1)) (valF l E f (kidB x 1)) = closeA x E.past (valF l E.past f (kidA x 0)) (valF l E.past f (kidB x 0))
        have h1 : valF l E f (kidA x 1) = valF l E.past f (kidA x 0) := by
          unfold kidA
          split
          · rw [ih E, ih E.past, past_past]
          · split <;> exact ih E _
        have h2 : valF l E f (kidB x 1) = valF l E.past f (kidB x 0) := by
          unfold kidB
          split <;> exact ih E _
        rw [h1, h2]
    · rw [if_neg h0, if_neg h0]
theorem valA_past (l : List Ex) (E : Env) (s : Int) : valA l E (s, 1) = valA l E.past (s, 0) := val_past l _ E s
theorem nodeA_ub {n : Ex} {E : Env} {a b : Ans} (ha : a.ub ≠ 0 → a.v = 0) (h : (nodeA n E a b).ub ≠ 0) : (nodeA n E a b).v = 0 := by
  unfold nodeA at h ⊢
  repeat' split at h
  all_goals first
    | exact absurd rfl h
    | skip
  · rename_i h1 h2
    rw [if_neg h1, if_pos h2]
    unfold namedA at h ⊢
    repeat' split at h
    all_goals first
      | exact absurd rfl h
      | skip
    rename_i L b' he h3 h4
    rw [if_pos h3, if_pos h4]
  · rename_i h1 h2 h3
    rw [if_neg h1, if_neg h2, if_pos h3]; exact ha h
  · rename_i h1 h2 h3 h4 h5
    rw [if_neg h1, if_neg h2, if_neg h3, if_neg h4, if_neg h5]
    unfold opA doA at h ⊢
    repeat' split at h
    all_goals first
      | exact absurd rfl h
      | skip
    · rename_i h6 h7; rw [if_pos h6, if_neg h7]
    · rename_i h6 h7 h8; rw [if_neg h6, if_pos h7, if_neg h8]
theorem valF_ub (l : List Ex) : ∀ (f : Nat) (E : Env) (s : Int × Nat), (valF l E f s).ub ≠ 0 → (valF l E f s).v = 0 := by
  intro f
  induction f with
  | zero => intro E s h; exact absurd rfl h
  | succ f ih =>
    intro E s
    rw [val_succ]
    split
    · split
      · rename_i x _
        intro h
        unfold closeA at h ⊢
        split
        · rfl
        · rename_i h1
          rw [if_neg h1] at h
          split
          · rfl
          · rename_i h2
            rw [if_neg h2] at h
            exact nodeA_ub (ih E _) h
      · intro h; exact absurd rfl h
    · intro h; exact absurd rfl h
theorem ListAt.at {w : World} {a : Option Addr} {c : Nat} {l : List Ex} (h : ListAt w (.slice a l.length c) l) {i : Nat} (hi : i < l.length) : ∃ b, a = some ⟨b, 0, none⟩ ∧ l.length ≤ c ∧ c ≤ 9223372036854775807 ∧
    ∀ w', Kept w w' → w'.cell? ⟨b, i * 7, none⟩ = some (.int .i64 l[i].kind) ∧ w'.cell? ⟨b, i * 7 + 1, none⟩ = some (.int .i64 l[i].num) ∧ w'.cell? ⟨b, i * 7 + 2, none⟩ = some (.int .i64 l[i].ty) ∧ w'.cell? ⟨b, i * 7 + 3, none⟩ = some (.string ⟨l[i].name.toArray⟩) ∧ w'.cell? ⟨b, i * 7 + 4, none⟩ = some (.int .i64 l[i].a) ∧ w'.cell? ⟨b, i * 7 + 5, none⟩ = some (.int .i64 l[i].b) ∧ w'.cell? ⟨b, i * 7 + 6, none⟩ = some (.int .i64 l[i].place) := by
  obtain ⟨h0, ⟨h1, h2⟩ | ⟨b, cap, cur, h1, h2, h3, h4, h5⟩⟩ := h
  · subst h2; simp at hi
  · injection h1 with h1 h1' h1''
    subst h1 h1''
    have h6 := h5 i hi
    refine ⟨b, rfl, h2, by simpa only [maxLen] using h3, fun w' hk => ?_⟩
    have hb := kh h4 hk
    exact ⟨bx_cell hb _ _ h6.1, bx_cell hb _ _ h6.2.1, bx_cell hb _ _ h6.2.2.1, bx_cell hb _ _ h6.2.2.2.1, bx_cell hb _ _ h6.2.2.2.2.1, bx_cell hb _ _ h6.2.2.2.2.2.1, bx_cell hb _ _ h6.2.2.2.2.2.2⟩
/-- What the calls for the nodes ahead tell. -/
def Ahead (w : World) (lv : Value) (l : List Ex) (i : Nat) : Prop :=
  ∀ mv bv ov obv E, REnvAt w mv bv ov obv E → ∀ a : Int, a < i → ValCalls w lv mv bv ov obv E a (valA l E (a, 0))
theorem ValCalls.kept {w W : World} {lv mv bv ov obv : Value} {E : Env} {a : Int} {X : Ans} (h : ValCalls w lv mv bv ov obv E a X) (hk : Kept w W) : ValCalls W lv mv bv ov obv E a X := fun w1 h1 => h w1 (hk.trans h1)
set_option maxRecDepth 100000 in
set_option maxHeartbeats 4000000 in
theorem rv_num {w : World} {lv mv bv ov obv : Value} {l : List Ex} {i : Nat} {E : Env} (hL : ListAt w lv l) (hi : i < l.length) (hE : REnvAt w mv bv ov obv E) (hk : l[i].kind = 1) :
    Calls Try.prog 28 #[lv, .int .i64 (i : Int), envVal mv bv ov obv E] w fun e w' => e = .returned (ansVal (⟨l[i].num, l[i].ty, 0, 0⟩)) ∧ Kept w w' := by
  have hlen := hL.1
  obtain ⟨m, hm⟩ := hE.mem.form
  obtain ⟨o, ho⟩ := hE.old.form
  obtain ⟨ba, bl, bc, hbv⟩ := binds_form hE.binds
  obtain ⟨oa, ol, oc, hob⟩ := binds_form hE.olds
  obtain ⟨la, lc, hlv⟩ := hL.form
  subst hm ho hbv hob hlv
  obtain ⟨lb, hla, hc1, hc2, hy⟩ := hL.at hi
  subst hla
  have HY := Lib.hid hy
  clear hy
  clear hL hE
  have hK : (l[i].kind : Int) = 1 := by omega
  rw [hK] at HY
  generalize l[i] = n at *
  unfold ansVal envVal
  try simp only
  have HD : True := trivial
  all_goals
    go_enter Try.func28, Try.ntmps28
    go_upto_region 1 with fail
    obtain ⟨v0, v1, kV⟩ := two w (.cells #[.pointer m, .slice ba bl bc, .pointer o, .slice oa ol oc, .int .i64 E.res, .int .i64 E.t] 35) (.cells #[.int .i64 0, .int .i64 0, .int .i64 0, .int .i64 0] 77)
    have hvs : ((w.alloc (.cells #[.pointer m, .slice ba bl bc, .pointer o, .slice oa ol oc, .int .i64 E.res, .int .i64 E.t] 35)).alloc (.cells #[.int .i64 0, .int .i64 0, .int .i64 0, .int .i64 0] 77)).heap.size = w.heap.size + 1 + 1 := by simp
    generalize ((w.alloc (.cells #[.pointer m, .slice ba bl bc, .pointer o, .slice oa ol oc, .int .i64 E.res, .int .i64 E.t] 35)).alloc (.cells #[.int .i64 0, .int .i64 0, .int .i64 0, .int .i64 0] 77)) = V at *
    obtain ⟨y0, y1, y2, y3, y4, y5, y6⟩ := HY.out _ kV
    go_upto_region 4 with fail
    have x2 := World.alloc_heap_new V (.cells #[.int .i64 1, .int .i64 n.num, .int .i64 n.ty, .string ⟨n.name.toArray⟩, .int .i64 n.a, .int .i64 n.b, .int .i64 n.place] 51)
    have kx := (Kept.refl V).alloc (.cells #[.int .i64 1, .int .i64 n.num, .int .i64 n.ty, .string ⟨n.name.toArray⟩, .int .i64 n.a, .int .i64 n.b, .int .i64 n.place] 51)
    have x0 := kh v0 kx
    have x1 := kh v1 kx
    have kW := kV.trans kx
    generalize V.alloc (.cells #[.int .i64 1, .int .i64 n.num, .int .i64 n.ty, .string ⟨n.name.toArray⟩, .int .i64 n.a, .int .i64 n.b, .int .i64 n.place] 51) = W at *
    rw [hvs] at x2
    try rw [hvs]
    clear y0 y1 y2 y3 y4 y5 y6 v0 v1 kV hvs kx
    have e0 := bx_cell x0 0 _ rfl
    have e1 := bx_cell x0 1 _ rfl
    have e2 := bx_cell x0 2 _ rfl
    have e3 := bx_cell x0 3 _ rfl
    have e4 := bx_cell x0 4 _ rfl
    have e5 := bx_cell x0 5 _ rfl
    have r0 := bx_cell x1 0 _ rfl
    have r1 := bx_cell x1 1 _ rfl
    have r2 := bx_cell x1 2 _ rfl
    have r3 := bx_cell x1 3 _ rfl
    have rf := bx_froz x1
    have n0 := bx_cell x2 0 _ rfl
    have n1 := bx_cell x2 1 _ rfl
    have n2 := bx_cell x2 2 _ rfl
    have n3 := bx_cell x2 3 _ rfl
    have n4 := bx_cell x2 4 _ rfl
    have n5 := bx_cell x2 5 _ rfl
    have n6 := bx_cell x2 6 _ rfl
    have Y := Lib.hid (And.intro x0 (And.intro x1 x2))
    have KW := Lib.hid kW
    clear x0 x1 x2 kW
    have R := Lib.hid (fun w' (hk : Kept W w') a b c d => put4 (w := w) (W := w') a b c d (by omega) (KW.out.trans hk) (kh Y.out.2.1 hk))
    go_wp2
    (have s := R.out _ (Kept.refl W) (.int .i64 n.num) (.int .i64 n.ty) (.int .i64 0) (.int .i64 0); have z0 := bx_cell s.1 0 _ rfl; have z1 := bx_cell s.1 1 _ rfl; have z2 := bx_cell s.1 2 _ rfl; have z3 := bx_cell s.1 3 _ rfl; have S := Lib.hid s.2; clear s; clear r0 r1 r2 r3 n0 n1 n2 n3 n4 n5 n6 e0 e1 e2 e3 e4 e5; simp [bodyPost, results, Try.f28, go_sem, z0, z1, z2, z3]; exact S.out)
set_option maxRecDepth 100000 in
set_option maxHeartbeats 4000000 in
theorem rv_result {w : World} {lv mv bv ov obv : Value} {l : List Ex} {i : Nat} {E : Env} (hL : ListAt w lv l) (hi : i < l.length) (hE : REnvAt w mv bv ov obv E) (hk : l[i].kind = 5) :
    Calls Try.prog 28 #[lv, .int .i64 (i : Int), envVal mv bv ov obv E] w fun e w' => e = .returned (ansVal (⟨E.res, E.t, 0, 0⟩)) ∧ Kept w w' := by
  have hlen := hL.1
  obtain ⟨m, hm⟩ := hE.mem.form
  obtain ⟨o, ho⟩ := hE.old.form
  obtain ⟨ba, bl, bc, hbv⟩ := binds_form hE.binds
  obtain ⟨oa, ol, oc, hob⟩ := binds_form hE.olds
  obtain ⟨la, lc, hlv⟩ := hL.form
  subst hm ho hbv hob hlv
  obtain ⟨lb, hla, hc1, hc2, hy⟩ := hL.at hi
  subst hla
  have HY := Lib.hid hy
  clear hy
  clear hL hE
  have hK : (l[i].kind : Int) = 5 := by omega
  rw [hK] at HY
  generalize l[i] = n at *
  unfold ansVal envVal
  try simp only
  have HD : True := trivial
  all_goals
    go_enter Try.func28, Try.ntmps28
    go_upto_region 1 with fail
    obtain ⟨v0, v1, kV⟩ := two w (.cells #[.pointer m, .slice ba bl bc, .pointer o, .slice oa ol oc, .int .i64 E.res, .int .i64 E.t] 35) (.cells #[.int .i64 0, .int .i64 0, .int .i64 0, .int .i64 0] 77)
    have hvs : ((w.alloc (.cells #[.pointer m, .slice ba bl bc, .pointer o, .slice oa ol oc, .int .i64 E.res, .int .i64 E.t] 35)).alloc (.cells #[.int .i64 0, .int .i64 0, .int .i64 0, .int .i64 0] 77)).heap.size = w.heap.size + 1 + 1 := by simp
    generalize ((w.alloc (.cells #[.pointer m, .slice ba bl bc, .pointer o, .slice oa ol oc, .int .i64 E.res, .int .i64 E.t] 35)).alloc (.cells #[.int .i64 0, .int .i64 0, .int .i64 0, .int .i64 0] 77)) = V at *
    obtain ⟨y0, y1, y2, y3, y4, y5, y6⟩ := HY.out _ kV
    go_upto_region 4 with fail
    have x2 := World.alloc_heap_new V (.cells #[.int .i64 5, .int .i64 n.num, .int .i64 n.ty, .string ⟨n.name.toArray⟩, .int .i64 n.a, .int .i64 n.b, .int .i64 n.place] 51)
    have kx := (Kept.refl V).alloc (.cells #[.int .i64 5, .int .i64 n.num, .int .i64 n.ty, .string ⟨n.name.toArray⟩, .int .i64 n.a, .int .i64 n.b, .int .i64 n.place] 51)
    have x0 := kh v0 kx
    have x1 := kh v1 kx
    have kW := kV.trans kx
    generalize V.alloc (.cells #[.int .i64 5, .int .i64 n.num, .int .i64 n.ty, .string ⟨n.name.toArray⟩, .int .i64 n.a, .int .i64 n.b, .int .i64 n.place] 51) = W at *
    rw [hvs] at x2
    try rw [hvs]
    clear y0 y1 y2 y3 y4 y5 y6 v0 v1 kV hvs kx
    have e0 := bx_cell x0 0 _ rfl
    have e1 := bx_cell x0 1 _ rfl
    have e2 := bx_cell x0 2 _ rfl
    have e3 := bx_cell x0 3 _ rfl
    have e4 := bx_cell x0 4 _ rfl
    have e5 := bx_cell x0 5 _ rfl
    have r0 := bx_cell x1 0 _ rfl
    have r1 := bx_cell x1 1 _ rfl
    have r2 := bx_cell x1 2 _ rfl
    have r3 := bx_cell x1 3 _ rfl
    have rf := bx_froz x1
    have n0 := bx_cell x2 0 _ rfl
    have n1 := bx_cell x2 1 _ rfl
    have n2 := bx_cell x2 2 _ rfl
    have n3 := bx_cell x2 3 _ rfl
    have n4 := bx_cell x2 4 _ rfl
    have n5 := bx_cell x2 5 _ rfl
    have n6 := bx_cell x2 6 _ rfl
    have Y := Lib.hid (And.intro x0 (And.intro x1 x2))
    have KW := Lib.hid kW
    clear x0 x1 x2 kW
    have R := Lib.hid (fun w' (hk : Kept W w') a b c d => put4 (w := w) (W := w') a b c d (by omega) (KW.out.trans hk) (kh Y.out.2.1 hk))
    go_wp2
    (have s := R.out _ (Kept.refl W) (.int .i64 E.res) (.int .i64 E.t) (.int .i64 0) (.int .i64 0); have z0 := bx_cell s.1 0 _ rfl; have z1 := bx_cell s.1 1 _ rfl; have z2 := bx_cell s.1 2 _ rfl; have z3 := bx_cell s.1 3 _ rfl; have S := Lib.hid s.2; clear s; clear r0 r1 r2 r3 n0 n1 n2 n3 n4 n5 n6 e0 e1 e2 e3 e4 e5; simp [bodyPost, results, Try.f28, go_sem, z0, z1, z2, z3]; exact S.out)
set_option maxRecDepth 100000 in
set_option maxHeartbeats 4000000 in
theorem rv_elem {w : World} {lv mv bv ov obv : Value} {l : List Ex} {i : Nat} {E : Env} (hL : ListAt w lv l) (hi : i < l.length) (hE : REnvAt w mv bv ov obv E) (hk : l[i].kind = 3) {X : Ans} (hX : ValCalls w lv mv bv ov obv E l[i].a X) :
    Calls Try.prog 28 #[lv, .int .i64 (i : Int), envVal mv bv ov obv E] w fun e w' => e = .returned (ansVal (elemA l[i] E X)) ∧ Kept w w' := by
  have hlen := hL.1
  have HX := Lib.hid (fun W (hk' : Kept w W) => elem_any (hE.kept hk') hk (hX.kept hk'))
  clear hX
  obtain ⟨m, hm⟩ := hE.mem.form
  obtain ⟨o, ho⟩ := hE.old.form
  obtain ⟨ba, bl, bc, hbv⟩ := binds_form hE.binds
  obtain ⟨oa, ol, oc, hob⟩ := binds_form hE.olds
  obtain ⟨la, lc, hlv⟩ := hL.form
  subst hm ho hbv hob hlv
  obtain ⟨lb, hla, hc1, hc2, hy⟩ := hL.at hi
  subst hla
  have HY := Lib.hid hy
  clear hy
  clear hL hE
  have hK : (l[i].kind : Int) = 3 := by omega
  rw [hK] at HY
  generalize l[i] = n at *
  unfold ansVal envVal
  try simp only
  unfold ansVal exVal envVal at HX
  rw [hK] at HX
  generalize elemA n E X = Z at *
  try simp only at HX
  all_goals
    go_enter Try.func28, Try.ntmps28
    go_upto_region 1 with fail
    obtain ⟨v0, v1, kV⟩ := two w (.cells #[.pointer m, .slice ba bl bc, .pointer o, .slice oa ol oc, .int .i64 E.res, .int .i64 E.t] 35) (.cells #[.int .i64 0, .int .i64 0, .int .i64 0, .int .i64 0] 77)
    have hvs : ((w.alloc (.cells #[.pointer m, .slice ba bl bc, .pointer o, .slice oa ol oc, .int .i64 E.res, .int .i64 E.t] 35)).alloc (.cells #[.int .i64 0, .int .i64 0, .int .i64 0, .int .i64 0] 77)).heap.size = w.heap.size + 1 + 1 := by simp
    generalize ((w.alloc (.cells #[.pointer m, .slice ba bl bc, .pointer o, .slice oa ol oc, .int .i64 E.res, .int .i64 E.t] 35)).alloc (.cells #[.int .i64 0, .int .i64 0, .int .i64 0, .int .i64 0] 77)) = V at *
    obtain ⟨y0, y1, y2, y3, y4, y5, y6⟩ := HY.out _ kV
    go_upto_region 4 with fail
    have x2 := World.alloc_heap_new V (.cells #[.int .i64 3, .int .i64 n.num, .int .i64 n.ty, .string ⟨n.name.toArray⟩, .int .i64 n.a, .int .i64 n.b, .int .i64 n.place] 51)
    have kx := (Kept.refl V).alloc (.cells #[.int .i64 3, .int .i64 n.num, .int .i64 n.ty, .string ⟨n.name.toArray⟩, .int .i64 n.a, .int .i64 n.b, .int .i64 n.place] 51)
    have x0 := kh v0 kx
    have x1 := kh v1 kx
    have kW := kV.trans kx
    generalize V.alloc (.cells #[.int .i64 3, .int .i64 n.num, .int .i64 n.ty, .string ⟨n.name.toArray⟩, .int .i64 n.a, .int .i64 n.b, .int .i64 n.place] 51) = W at *
    rw [hvs] at x2
    try rw [hvs]
    clear y0 y1 y2 y3 y4 y5 y6 v0 v1 kV hvs kx
    have e0 := bx_cell x0 0 _ rfl
    have e1 := bx_cell x0 1 _ rfl
    have e2 := bx_cell x0 2 _ rfl
    have e3 := bx_cell x0 3 _ rfl
    have e4 := bx_cell x0 4 _ rfl
    have e5 := bx_cell x0 5 _ rfl
    have r0 := bx_cell x1 0 _ rfl
    have r1 := bx_cell x1 1 _ rfl
    have r2 := bx_cell x1 2 _ rfl
    have r3 := bx_cell x1 3 _ rfl
    have rf := bx_froz x1
    have n0 := bx_cell x2 0 _ rfl
    have n1 := bx_cell x2 1 _ rfl
    have n2 := bx_cell x2 2 _ rfl
    have n3 := bx_cell x2 3 _ rfl
    have n4 := bx_cell x2 4 _ rfl
    have n5 := bx_cell x2 5 _ rfl
    have n6 := bx_cell x2 6 _ rfl
    have Y := Lib.hid (And.intro x0 (And.intro x1 x2))
    have KW := Lib.hid kW
    clear x0 x1 x2 kW
    have R := Lib.hid (fun w' (hk : Kept W w') a b c d => put4 (w := w) (W := w') a b c d (by omega) (KW.out.trans hk) (kh Y.out.2.1 hk))
    go_wp2_with (go_at_call 48; refine (HX.out _ KW.out).mono ?_; rintro e w5 ⟨rfl, k5⟩; have q := kh Y.out.2.1 k5; have q0 := bx_cell q 0 _ rfl; have q1 := bx_cell q 1 _ rfl; have q2 := bx_cell q 2 _ rfl; have q3 := bx_cell q 3 _ rfl; have qf := bx_froz q; have K5 := Lib.hid k5; clear q k5)
    clear q0 q1 q2 q3
    (have s := R.out _ K5.out (.int .i64 Z.v) (.int .i64 Z.t) (.int .i64 Z.ub) (.int .i64 Z.at_); have z0 := bx_cell s.1 0 _ rfl; have z1 := bx_cell s.1 1 _ rfl; have z2 := bx_cell s.1 2 _ rfl; have z3 := bx_cell s.1 3 _ rfl; have S := Lib.hid s.2; clear s; clear r0 r1 r2 r3 n0 n1 n2 n3 n4 n5 n6 e0 e1 e2 e3 e4 e5; simp [bodyPost, results, Try.f28, go_sem, z0, z1, z2, z3]; exact S.out)
set_option maxRecDepth 100000 in
set_option maxHeartbeats 4000000 in
theorem rv_old {w : World} {lv mv bv ov obv : Value} {l : List Ex} {i : Nat} {E : Env} (hL : ListAt w lv l) (hi : i < l.length) (hE : REnvAt w mv bv ov obv E) (hk : l[i].kind = 4) {X : Ans} (hX : ValCalls w lv ov obv ov obv E.past l[i].a X) :
    Calls Try.prog 28 #[lv, .int .i64 (i : Int), envVal mv bv ov obv E] w fun e w' => e = .returned (ansVal (X)) ∧ Kept w w' := by
  have hlen := hL.1
  have HX := Lib.hid hX
  clear hX
  obtain ⟨m, hm⟩ := hE.mem.form
  obtain ⟨o, ho⟩ := hE.old.form
  obtain ⟨ba, bl, bc, hbv⟩ := binds_form hE.binds
  obtain ⟨oa, ol, oc, hob⟩ := binds_form hE.olds
  obtain ⟨la, lc, hlv⟩ := hL.form
  subst hm ho hbv hob hlv
  obtain ⟨lb, hla, hc1, hc2, hy⟩ := hL.at hi
  subst hla
  have HY := Lib.hid hy
  clear hy
  clear hL hE
  have hK : (l[i].kind : Int) = 4 := by omega
  rw [hK] at HY
  generalize l[i] = n at *
  unfold ansVal envVal
  try simp only
  unfold ValCalls envVal ansVal at HX
  unfold Env.past at HX
  try simp only at HX
  all_goals
    go_enter Try.func28, Try.ntmps28
    go_upto_region 1 with fail
    obtain ⟨v0, v1, kV⟩ := two w (.cells #[.pointer m, .slice ba bl bc, .pointer o, .slice oa ol oc, .int .i64 E.res, .int .i64 E.t] 35) (.cells #[.int .i64 0, .int .i64 0, .int .i64 0, .int .i64 0] 77)
    have hvs : ((w.alloc (.cells #[.pointer m, .slice ba bl bc, .pointer o, .slice oa ol oc, .int .i64 E.res, .int .i64 E.t] 35)).alloc (.cells #[.int .i64 0, .int .i64 0, .int .i64 0, .int .i64 0] 77)).heap.size = w.heap.size + 1 + 1 := by simp
    generalize ((w.alloc (.cells #[.pointer m, .slice ba bl bc, .pointer o, .slice oa ol oc, .int .i64 E.res, .int .i64 E.t] 35)).alloc (.cells #[.int .i64 0, .int .i64 0, .int .i64 0, .int .i64 0] 77)) = V at *
    obtain ⟨y0, y1, y2, y3, y4, y5, y6⟩ := HY.out _ kV
    go_upto_region 4 with fail
    have x2 := World.alloc_heap_new V (.cells #[.int .i64 4, .int .i64 n.num, .int .i64 n.ty, .string ⟨n.name.toArray⟩, .int .i64 n.a, .int .i64 n.b, .int .i64 n.place] 51)
    have kx := (Kept.refl V).alloc (.cells #[.int .i64 4, .int .i64 n.num, .int .i64 n.ty, .string ⟨n.name.toArray⟩, .int .i64 n.a, .int .i64 n.b, .int .i64 n.place] 51)
    have x0 := kh v0 kx
    have x1 := kh v1 kx
    have kW := kV.trans kx
    generalize V.alloc (.cells #[.int .i64 4, .int .i64 n.num, .int .i64 n.ty, .string ⟨n.name.toArray⟩, .int .i64 n.a, .int .i64 n.b, .int .i64 n.place] 51) = W at *
    rw [hvs] at x2
    try rw [hvs]
    clear y0 y1 y2 y3 y4 y5 y6 v0 v1 kV hvs kx
    have e0 := bx_cell x0 0 _ rfl
    have e1 := bx_cell x0 1 _ rfl
    have e2 := bx_cell x0 2 _ rfl
    have e3 := bx_cell x0 3 _ rfl
    have e4 := bx_cell x0 4 _ rfl
    have e5 := bx_cell x0 5 _ rfl
    have r0 := bx_cell x1 0 _ rfl
    have r1 := bx_cell x1 1 _ rfl
    have r2 := bx_cell x1 2 _ rfl
    have r3 := bx_cell x1 3 _ rfl
    have rf := bx_froz x1
    have n0 := bx_cell x2 0 _ rfl
    have n1 := bx_cell x2 1 _ rfl
    have n2 := bx_cell x2 2 _ rfl
    have n3 := bx_cell x2 3 _ rfl
    have n4 := bx_cell x2 4 _ rfl
    have n5 := bx_cell x2 5 _ rfl
    have n6 := bx_cell x2 6 _ rfl
    have Y := Lib.hid (And.intro x0 (And.intro x1 x2))
    have KW := Lib.hid kW
    clear x0 x1 x2 kW
    have R := Lib.hid (fun w' (hk : Kept W w') a b c d => put4 (w := w) (W := w') a b c d (by omega) (KW.out.trans hk) (kh Y.out.2.1 hk))
    go_wp2_with (go_at_call 28; refine (HX.out _ KW.out).mono ?_; rintro e w5 ⟨rfl, k5⟩; have q := kh Y.out.2.1 k5; have q0 := bx_cell q 0 _ rfl; have q1 := bx_cell q 1 _ rfl; have q2 := bx_cell q 2 _ rfl; have q3 := bx_cell q 3 _ rfl; have qf := bx_froz q; have K5 := Lib.hid k5; clear q k5)
    clear q0 q1 q2 q3
    (have s := R.out _ K5.out (.int .i64 X.v) (.int .i64 X.t) (.int .i64 X.ub) (.int .i64 X.at_); have z0 := bx_cell s.1 0 _ rfl; have z1 := bx_cell s.1 1 _ rfl; have z2 := bx_cell s.1 2 _ rfl; have z3 := bx_cell s.1 3 _ rfl; have S := Lib.hid s.2; clear s; clear r0 r1 r2 r3 n0 n1 n2 n3 n4 n5 n6 e0 e1 e2 e3 e4 e5; simp [bodyPost, results, Try.f28, go_sem, z0, z1, z2, z3]; exact S.out)
set_option maxRecDepth 100000 in
set_option maxHeartbeats 4000000 in
theorem rv_node {w : World} {lv mv bv ov obv : Value} {l : List Ex} {i : Nat} {E : Env} (hL : ListAt w lv l) (hi : i < l.length) (hE : REnvAt w mv bv ov obv E) (hk : l[i].kind = 0 ∨ 5 < l[i].kind) {Z : Ans} (hX : ∀ W, Kept w W → Calls Try.prog 49 #[lv, exVal l[i], envVal mv bv ov obv E] W fun e w' => e = .returned (ansVal Z) ∧ Kept W w') :
    Calls Try.prog 28 #[lv, .int .i64 (i : Int), envVal mv bv ov obv E] w fun e w' => e = .returned (ansVal (Z)) ∧ Kept w w' := by
  have hlen := hL.1
  have HX := Lib.hid hX
  clear hX
  obtain ⟨m, hm⟩ := hE.mem.form
  obtain ⟨o, ho⟩ := hE.old.form
  obtain ⟨ba, bl, bc, hbv⟩ := binds_form hE.binds
  obtain ⟨oa, ol, oc, hob⟩ := binds_form hE.olds
  obtain ⟨la, lc, hlv⟩ := hL.form
  subst hm ho hbv hob hlv
  obtain ⟨lb, hla, hc1, hc2, hy⟩ := hL.at hi
  subst hla
  have HY := Lib.hid hy
  clear hy
  clear hL hE
  generalize l[i] = n at *
  unfold ansVal exVal envVal at *
  obtain ⟨K, hK⟩ : ∃ K : Int, (n.kind : Int) = K := ⟨_, rfl⟩
  rw [hK] at HY HX
  have k1 : (K == 1) = false := (by simp; omega)
  have k2 : (K == 2) = false := (by simp; omega)
  have k3 : (K == 3) = false := (by simp; omega)
  have k4 : (K == 4) = false := (by simp; omega)
  have k5 : (K == 5) = false := (by simp; omega)
  clear hK hk
  try simp only at HX ⊢
  all_goals
    go_enter Try.func28, Try.ntmps28
    go_upto_region 1 with fail
    obtain ⟨v0, v1, kV⟩ := two w (.cells #[.pointer m, .slice ba bl bc, .pointer o, .slice oa ol oc, .int .i64 E.res, .int .i64 E.t] 35) (.cells #[.int .i64 0, .int .i64 0, .int .i64 0, .int .i64 0] 77)
    have hvs : ((w.alloc (.cells #[.pointer m, .slice ba bl bc, .pointer o, .slice oa ol oc, .int .i64 E.res, .int .i64 E.t] 35)).alloc (.cells #[.int .i64 0, .int .i64 0, .int .i64 0, .int .i64 0] 77)).heap.size = w.heap.size + 1 + 1 := by simp
    generalize ((w.alloc (.cells #[.pointer m, .slice ba bl bc, .pointer o, .slice oa ol oc, .int .i64 E.res, .int .i64 E.t] 35)).alloc (.cells #[.int .i64 0, .int .i64 0, .int .i64 0, .int .i64 0] 77)) = V at *
    obtain ⟨y0, y1, y2, y3, y4, y5, y6⟩ := HY.out _ kV
    go_upto_region 4 with fail
    have x2 := World.alloc_heap_new V (.cells #[.int .i64 K, .int .i64 n.num, .int .i64 n.ty, .string ⟨n.name.toArray⟩, .int .i64 n.a, .int .i64 n.b, .int .i64 n.place] 51)
    have kx := (Kept.refl V).alloc (.cells #[.int .i64 K, .int .i64 n.num, .int .i64 n.ty, .string ⟨n.name.toArray⟩, .int .i64 n.a, .int .i64 n.b, .int .i64 n.place] 51)
    have x0 := kh v0 kx
    have x1 := kh v1 kx
    have kW := kV.trans kx
    generalize V.alloc (.cells #[.int .i64 K, .int .i64 n.num, .int .i64 n.ty, .string ⟨n.name.toArray⟩, .int .i64 n.a, .int .i64 n.b, .int .i64 n.place] 51) = W at *
    rw [hvs] at x2
    try rw [hvs]
    clear y0 y1 y2 y3 y4 y5 y6 v0 v1 kV hvs kx
    have e0 := bx_cell x0 0 _ rfl
    have e1 := bx_cell x0 1 _ rfl
    have e2 := bx_cell x0 2 _ rfl
    have e3 := bx_cell x0 3 _ rfl
    have e4 := bx_cell x0 4 _ rfl
    have e5 := bx_cell x0 5 _ rfl
    have r0 := bx_cell x1 0 _ rfl
    have r1 := bx_cell x1 1 _ rfl
    have r2 := bx_cell x1 2 _ rfl
    have r3 := bx_cell x1 3 _ rfl
    have rf := bx_froz x1
    have n0 := bx_cell x2 0 _ rfl
    have n1 := bx_cell x2 1 _ rfl
    have n2 := bx_cell x2 2 _ rfl
    have n3 := bx_cell x2 3 _ rfl
    have n4 := bx_cell x2 4 _ rfl
    have n5 := bx_cell x2 5 _ rfl
    have n6 := bx_cell x2 6 _ rfl
    have Y := Lib.hid (And.intro x0 (And.intro x1 x2))
    have KW := Lib.hid kW
    clear x0 x1 x2 kW
    have R := Lib.hid (fun w' (hk : Kept W w') a b c d => put4 (w := w) (W := w') a b c d (by omega) (KW.out.trans hk) (kh Y.out.2.1 hk))
    go_wp2_with (go_at_call 49; refine (HX.out _ KW.out).mono ?_; rintro e w5 ⟨rfl, k5⟩; have q := kh Y.out.2.1 k5; have q0 := bx_cell q 0 _ rfl; have q1 := bx_cell q 1 _ rfl; have q2 := bx_cell q 2 _ rfl; have q3 := bx_cell q 3 _ rfl; have qf := bx_froz q; have K5 := Lib.hid k5; clear q k5)
    clear q0 q1 q2 q3
    (have s := R.out _ K5.out (.int .i64 Z.v) (.int .i64 Z.t) (.int .i64 Z.ub) (.int .i64 Z.at_); have z0 := bx_cell s.1 0 _ rfl; have z1 := bx_cell s.1 1 _ rfl; have z2 := bx_cell s.1 2 _ rfl; have z3 := bx_cell s.1 3 _ rfl; have S := Lib.hid s.2; clear s; clear r0 r1 r2 r3 n0 n1 n2 n3 n4 n5 n6 e0 e1 e2 e3 e4 e5; simp [bodyPost, results, Try.f28, go_sem, z0, z1, z2, z3]; exact S.out)
set_option maxRecDepth 100000 in
set_option maxHeartbeats 4000000 in
theorem rv_var_none {w : World} {lv mv bv ov obv : Value} {l : List Ex} {i : Nat} {E : Env} (hL : ListAt w lv l) (hi : i < l.length) (hE : REnvAt w mv bv ov obv E) (hk : l[i].kind = 2) (hf : findF E.binds l[i].name = none) :
    Calls Try.prog 28 #[lv, .int .i64 (i : Int), envVal mv bv ov obv E] w fun e w' => e = .returned (ansVal (Ans.none)) ∧ Kept w w' := by
  have hlen := hL.1
  have HF := Lib.hid (fun w1 (hk : Kept w w1) => last_any w1 bv l[i].name E.binds (binds_kept hE.binds hk))
  rw [foundV, hf] at HF
  clear hf
  obtain ⟨m, hm⟩ := hE.mem.form
  obtain ⟨o, ho⟩ := hE.old.form
  obtain ⟨ba, bl, bc, hbv⟩ := binds_form hE.binds
  obtain ⟨oa, ol, oc, hob⟩ := binds_form hE.olds
  obtain ⟨la, lc, hlv⟩ := hL.form
  subst hm ho hbv hob hlv
  obtain ⟨lb, hla, hc1, hc2, hy⟩ := hL.at hi
  subst hla
  have HY := Lib.hid hy
  clear hy
  clear hL hE
  have hK : (l[i].kind : Int) = 2 := by omega
  rw [hK] at HY
  generalize l[i] = n at *
  unfold ansVal envVal
  try simp only
  unfold Ans.none
  unfold biVal Bi.none at HF
  try simp only at HF ⊢
  all_goals
    go_enter Try.func28, Try.ntmps28
    go_upto_region 1 with fail
    obtain ⟨v0, v1, kV⟩ := two w (.cells #[.pointer m, .slice ba bl bc, .pointer o, .slice oa ol oc, .int .i64 E.res, .int .i64 E.t] 35) (.cells #[.int .i64 0, .int .i64 0, .int .i64 0, .int .i64 0] 77)
    have hvs : ((w.alloc (.cells #[.pointer m, .slice ba bl bc, .pointer o, .slice oa ol oc, .int .i64 E.res, .int .i64 E.t] 35)).alloc (.cells #[.int .i64 0, .int .i64 0, .int .i64 0, .int .i64 0] 77)).heap.size = w.heap.size + 1 + 1 := by simp
    generalize ((w.alloc (.cells #[.pointer m, .slice ba bl bc, .pointer o, .slice oa ol oc, .int .i64 E.res, .int .i64 E.t] 35)).alloc (.cells #[.int .i64 0, .int .i64 0, .int .i64 0, .int .i64 0] 77)) = V at *
    obtain ⟨y0, y1, y2, y3, y4, y5, y6⟩ := HY.out _ kV
    go_upto_region 4 with fail
    have x2 := World.alloc_heap_new V (.cells #[.int .i64 2, .int .i64 n.num, .int .i64 n.ty, .string ⟨n.name.toArray⟩, .int .i64 n.a, .int .i64 n.b, .int .i64 n.place] 51)
    have kx := (Kept.refl V).alloc (.cells #[.int .i64 2, .int .i64 n.num, .int .i64 n.ty, .string ⟨n.name.toArray⟩, .int .i64 n.a, .int .i64 n.b, .int .i64 n.place] 51)
    have x0 := kh v0 kx
    have x1 := kh v1 kx
    have kW := kV.trans kx
    generalize V.alloc (.cells #[.int .i64 2, .int .i64 n.num, .int .i64 n.ty, .string ⟨n.name.toArray⟩, .int .i64 n.a, .int .i64 n.b, .int .i64 n.place] 51) = W at *
    rw [hvs] at x2
    try rw [hvs]
    clear y0 y1 y2 y3 y4 y5 y6 v0 v1 kV hvs kx
    have e0 := bx_cell x0 0 _ rfl
    have e1 := bx_cell x0 1 _ rfl
    have e2 := bx_cell x0 2 _ rfl
    have e3 := bx_cell x0 3 _ rfl
    have e4 := bx_cell x0 4 _ rfl
    have e5 := bx_cell x0 5 _ rfl
    have r0 := bx_cell x1 0 _ rfl
    have r1 := bx_cell x1 1 _ rfl
    have r2 := bx_cell x1 2 _ rfl
    have r3 := bx_cell x1 3 _ rfl
    have rf := bx_froz x1
    have n0 := bx_cell x2 0 _ rfl
    have n1 := bx_cell x2 1 _ rfl
    have n2 := bx_cell x2 2 _ rfl
    have n3 := bx_cell x2 3 _ rfl
    have n4 := bx_cell x2 4 _ rfl
    have n5 := bx_cell x2 5 _ rfl
    have n6 := bx_cell x2 6 _ rfl
    have Y := Lib.hid (And.intro x0 (And.intro x1 x2))
    have KW := Lib.hid kW
    clear x0 x1 x2 kW
    have R := Lib.hid (fun w' (hk : Kept W w') a b c d => put4 (w := w) (W := w') a b c d (by omega) (KW.out.trans hk) (kh Y.out.2.1 hk))
    clear n1 n2 n4 n5 n6 e2 e3 e4 e5
    go_upto_region 9 with (go_at_call 47; refine (HF.out _ KW.out).mono ?_; rintro e w7 ⟨rfl, k7⟩; have K7 := Lib.hid k7; clear k7)
    have s2 := new4 (w := w7) #[.string ⟨#[]⟩, .int .i64 0, .int .i64 0, .int .i64 0] 63 (Kept.refl w7)
    generalize w7.alloc (.cells #[.string ⟨#[]⟩, .int .i64 0, .int .i64 0, .int .i64 0] 63) = W8 at *
    generalize w7.heap.size = d at *
    clear n0 n3 e0 e1 r0 r1 r2 r3 rf
    have K8 := Lib.hid (K7.out.trans s2.2)
    have e0 := bx_cell (kh Y.out.1 K8.out) 0 _ rfl
    have r0 := bx_cell (kh Y.out.2.1 K8.out) 0 _ rfl
    have r1 := bx_cell (kh Y.out.2.1 K8.out) 1 _ rfl
    have r2 := bx_cell (kh Y.out.2.1 K8.out) 2 _ rfl
    have r3 := bx_cell (kh Y.out.2.1 K8.out) 3 _ rfl
    have rf := bx_froz (kh Y.out.2.1 K8.out)
    have b0 := bx_cell s2.1 0 _ rfl
    have b1 := bx_cell s2.1 1 _ rfl
    have b2 := bx_cell s2.1 2 _ rfl
    have b3 := bx_cell s2.1 3 _ rfl
    clear s2 K7
    go_wp2
    (have s := R.out _ K8.out (.int .i64 0) (.int .i64 5) (.int .i64 0) (.int .i64 0); have z0 := bx_cell s.1 0 _ rfl; have z1 := bx_cell s.1 1 _ rfl; have z2 := bx_cell s.1 2 _ rfl; have z3 := bx_cell s.1 3 _ rfl; have S := Lib.hid s.2; clear s; clear r0 r1 r2 r3 e0 b0 b1 b2 b3; simp [bodyPost, results, Try.f28, go_sem, z0, z1, z2, z3]; exact S.out)
set_option maxRecDepth 100000 in
set_option maxHeartbeats 4000000 in
theorem rv_var_nil {w : World} {lv mv bv ov obv : Value} {l : List Ex} {i : Nat} {E : Env} (hL : ListAt w lv l) (hi : i < l.length) (hE : REnvAt w mv bv ov obv E) (hk : l[i].kind = 2) {b : Bi} (hf : findF E.binds l[i].name = some b) (hmv : mv = .pointer none) :
    Calls Try.prog 28 #[lv, .int .i64 (i : Int), envVal mv bv ov obv E] w fun e w' => e = .returned (ansVal (Ans.none)) ∧ Kept w w' := by
  have hlen := hL.1
  subst hmv
  have HF := Lib.hid (fun w1 (hk : Kept w w1) => last_any w1 bv l[i].name E.binds (binds_kept hE.binds hk))
  rw [foundV, hf] at HF
  clear hf
  obtain ⟨o, ho⟩ := hE.old.form
  obtain ⟨ba, bl, bc, hbv⟩ := binds_form hE.binds
  obtain ⟨oa, ol, oc, hob⟩ := binds_form hE.olds
  obtain ⟨la, lc, hlv⟩ := hL.form
  subst ho hbv hob hlv
  obtain ⟨lb, hla, hc1, hc2, hy⟩ := hL.at hi
  subst hla
  have HY := Lib.hid hy
  clear hy
  clear hL hE
  have hK : (l[i].kind : Int) = 2 := by omega
  rw [hK] at HY
  generalize l[i] = n at *
  unfold ansVal envVal
  try simp only
  unfold Ans.none
  unfold biVal at HF
  try simp only at HF ⊢
  all_goals
    go_enter Try.func28, Try.ntmps28
    go_upto_region 1 with fail
    obtain ⟨v0, v1, kV⟩ := two w (.cells #[.pointer none, .slice ba bl bc, .pointer o, .slice oa ol oc, .int .i64 E.res, .int .i64 E.t] 35) (.cells #[.int .i64 0, .int .i64 0, .int .i64 0, .int .i64 0] 77)
    have hvs : ((w.alloc (.cells #[.pointer none, .slice ba bl bc, .pointer o, .slice oa ol oc, .int .i64 E.res, .int .i64 E.t] 35)).alloc (.cells #[.int .i64 0, .int .i64 0, .int .i64 0, .int .i64 0] 77)).heap.size = w.heap.size + 1 + 1 := by simp
    generalize ((w.alloc (.cells #[.pointer none, .slice ba bl bc, .pointer o, .slice oa ol oc, .int .i64 E.res, .int .i64 E.t] 35)).alloc (.cells #[.int .i64 0, .int .i64 0, .int .i64 0, .int .i64 0] 77)) = V at *
    obtain ⟨y0, y1, y2, y3, y4, y5, y6⟩ := HY.out _ kV
    go_upto_region 4 with fail
    have x2 := World.alloc_heap_new V (.cells #[.int .i64 2, .int .i64 n.num, .int .i64 n.ty, .string ⟨n.name.toArray⟩, .int .i64 n.a, .int .i64 n.b, .int .i64 n.place] 51)
    have kx := (Kept.refl V).alloc (.cells #[.int .i64 2, .int .i64 n.num, .int .i64 n.ty, .string ⟨n.name.toArray⟩, .int .i64 n.a, .int .i64 n.b, .int .i64 n.place] 51)
    have x0 := kh v0 kx
    have x1 := kh v1 kx
    have kW := kV.trans kx
    generalize V.alloc (.cells #[.int .i64 2, .int .i64 n.num, .int .i64 n.ty, .string ⟨n.name.toArray⟩, .int .i64 n.a, .int .i64 n.b, .int .i64 n.place] 51) = W at *
    rw [hvs] at x2
    try rw [hvs]
    clear y0 y1 y2 y3 y4 y5 y6 v0 v1 kV hvs kx
    have e0 := bx_cell x0 0 _ rfl
    have e1 := bx_cell x0 1 _ rfl
    have e2 := bx_cell x0 2 _ rfl
    have e3 := bx_cell x0 3 _ rfl
    have e4 := bx_cell x0 4 _ rfl
    have e5 := bx_cell x0 5 _ rfl
    have r0 := bx_cell x1 0 _ rfl
    have r1 := bx_cell x1 1 _ rfl
    have r2 := bx_cell x1 2 _ rfl
    have r3 := bx_cell x1 3 _ rfl
    have rf := bx_froz x1
    have n0 := bx_cell x2 0 _ rfl
    have n1 := bx_cell x2 1 _ rfl
    have n2 := bx_cell x2 2 _ rfl
    have n3 := bx_cell x2 3 _ rfl
    have n4 := bx_cell x2 4 _ rfl
    have n5 := bx_cell x2 5 _ rfl
    have n6 := bx_cell x2 6 _ rfl
    have Y := Lib.hid (And.intro x0 (And.intro x1 x2))
    have KW := Lib.hid kW
    clear x0 x1 x2 kW
    have R := Lib.hid (fun w' (hk : Kept W w') a b c d => put4 (w := w) (W := w') a b c d (by omega) (KW.out.trans hk) (kh Y.out.2.1 hk))
    clear n1 n2 n4 n5 n6 e2 e3 e4 e5
    go_upto_region 9 with (go_at_call 47; refine (HF.out _ KW.out).mono ?_; rintro e w7 ⟨rfl, k7⟩; have K7 := Lib.hid k7; clear k7)
    have s2 := new4 (w := w7) #[.string ⟨b.name.toArray⟩, .int .i64 b.t, .int .i64 b.size, .int .i64 b.id] 63 (Kept.refl w7)
    generalize w7.alloc (.cells #[.string ⟨b.name.toArray⟩, .int .i64 b.t, .int .i64 b.size, .int .i64 b.id] 63) = W8 at *
    generalize w7.heap.size = d at *
    clear n0 n3 e0 e1 r0 r1 r2 r3 rf
    have K8 := Lib.hid (K7.out.trans s2.2)
    have e0 := bx_cell (kh Y.out.1 K8.out) 0 _ rfl
    have r0 := bx_cell (kh Y.out.2.1 K8.out) 0 _ rfl
    have r1 := bx_cell (kh Y.out.2.1 K8.out) 1 _ rfl
    have r2 := bx_cell (kh Y.out.2.1 K8.out) 2 _ rfl
    have r3 := bx_cell (kh Y.out.2.1 K8.out) 3 _ rfl
    have rf := bx_froz (kh Y.out.2.1 K8.out)
    have b0 := bx_cell s2.1 0 _ rfl
    have b1 := bx_cell s2.1 1 _ rfl
    have b2 := bx_cell s2.1 2 _ rfl
    have b3 := bx_cell s2.1 3 _ rfl
    clear s2 K7
    go_wp2
    (have s := R.out _ K8.out (.int .i64 0) (.int .i64 5) (.int .i64 0) (.int .i64 0); have z0 := bx_cell s.1 0 _ rfl; have z1 := bx_cell s.1 1 _ rfl; have z2 := bx_cell s.1 2 _ rfl; have z3 := bx_cell s.1 3 _ rfl; have S := Lib.hid s.2; clear s; clear r0 r1 r2 r3 e0 b0 b1 b2 b3; simp [bodyPost, results, Try.f28, go_sem, z0, z1, z2, z3]; exact S.out)
set_option maxRecDepth 100000 in
set_option maxHeartbeats 4000000 in
theorem rv_var_some {w : World} {lv mv bv ov obv : Value} {l : List Ex} {i : Nat} {E : Env} (hL : ListAt w lv l) (hi : i < l.length) (hE : REnvAt w mv bv ov obv E) (hk : l[i].kind = 2) {b : Bi} (hf : findF E.binds l[i].name = some b) {B p : Nat} {v : Value} {L : List Bk} (hmv : mv = .pointer (some ⟨p, 0, none⟩)) (hM : MemAt B 60 w p v L) :
    Calls Try.prog 28 #[lv, .int .i64 (i : Int), envVal mv bv ov obv E] w fun e w' => e = .returned (ansVal (⟨(getV L b.id 0).1, b.t, 0, 0⟩)) ∧ Kept w w' := by
  have hlen := hL.1
  subst hmv
  have HF := Lib.hid (fun w1 (hk : Kept w w1) => last_any w1 bv l[i].name E.binds (binds_kept hE.binds hk))
  rw [foundV, hf] at HF
  clear hf
  have HG : Hid (∀ w1, Kept w w1 → Calls Try.prog 41 #[.pointer (some ⟨p, 0, none⟩), .int .i64 b.id, .int .i64 0] w1 fun e w' => e = .returned (.tuple #[.int .i64 (getV L b.id 0).1, .bool (getV L b.id 0).2]) ∧ w1 = w') := Lib.hid fun w1 hk => Mem.rget_any (hM.kept hk) b.id 0
  clear hM
  generalize getV L b.id 0 = G at *
  obtain ⟨o, ho⟩ := hE.old.form
  obtain ⟨ba, bl, bc, hbv⟩ := binds_form hE.binds
  obtain ⟨oa, ol, oc, hob⟩ := binds_form hE.olds
  obtain ⟨la, lc, hlv⟩ := hL.form
  subst ho hbv hob hlv
  obtain ⟨lb, hla, hc1, hc2, hy⟩ := hL.at hi
  subst hla
  have HY := Lib.hid hy
  clear hy
  clear hL hE
  have hK : (l[i].kind : Int) = 2 := by omega
  rw [hK] at HY
  generalize l[i] = n at *
  unfold ansVal envVal
  try simp only
  unfold biVal at HF
  try simp only at HF ⊢
  all_goals
    go_enter Try.func28, Try.ntmps28
    go_upto_region 1 with fail
    obtain ⟨v0, v1, kV⟩ := two w (.cells #[.pointer (some ⟨p, 0, none⟩), .slice ba bl bc, .pointer o, .slice oa ol oc, .int .i64 E.res, .int .i64 E.t] 35) (.cells #[.int .i64 0, .int .i64 0, .int .i64 0, .int .i64 0] 77)
    have hvs : ((w.alloc (.cells #[.pointer (some ⟨p, 0, none⟩), .slice ba bl bc, .pointer o, .slice oa ol oc, .int .i64 E.res, .int .i64 E.t] 35)).alloc (.cells #[.int .i64 0, .int .i64 0, .int .i64 0, .int .i64 0] 77)).heap.size = w.heap.size + 1 + 1 := by simp
    generalize ((w.alloc (.cells #[.pointer (some ⟨p, 0, none⟩), .slice ba bl bc, .pointer o, .slice oa ol oc, .int .i64 E.res, .int .i64 E.t] 35)).alloc (.cells #[.int .i64 0, .int .i64 0, .int .i64 0, .int .i64 0] 77)) = V at *
    obtain ⟨y0, y1, y2, y3, y4, y5, y6⟩ := HY.out _ kV
    go_upto_region 4 with fail
    have x2 := World.alloc_heap_new V (.cells #[.int .i64 2, .int .i64 n.num, .int .i64 n.ty, .string ⟨n.name.toArray⟩, .int .i64 n.a, .int .i64 n.b, .int .i64 n.place] 51)
    have kx := (Kept.refl V).alloc (.cells #[.int .i64 2, .int .i64 n.num, .int .i64 n.ty, .string ⟨n.name.toArray⟩, .int .i64 n.a, .int .i64 n.b, .int .i64 n.place] 51)
    have x0 := kh v0 kx
    have x1 := kh v1 kx
    have kW := kV.trans kx
    generalize V.alloc (.cells #[.int .i64 2, .int .i64 n.num, .int .i64 n.ty, .string ⟨n.name.toArray⟩, .int .i64 n.a, .int .i64 n.b, .int .i64 n.place] 51) = W at *
    rw [hvs] at x2
    try rw [hvs]
    clear y0 y1 y2 y3 y4 y5 y6 v0 v1 kV hvs kx
    have e0 := bx_cell x0 0 _ rfl
    have e1 := bx_cell x0 1 _ rfl
    have e2 := bx_cell x0 2 _ rfl
    have e3 := bx_cell x0 3 _ rfl
    have e4 := bx_cell x0 4 _ rfl
    have e5 := bx_cell x0 5 _ rfl
    have r0 := bx_cell x1 0 _ rfl
    have r1 := bx_cell x1 1 _ rfl
    have r2 := bx_cell x1 2 _ rfl
    have r3 := bx_cell x1 3 _ rfl
    have rf := bx_froz x1
    have n0 := bx_cell x2 0 _ rfl
    have n1 := bx_cell x2 1 _ rfl
    have n2 := bx_cell x2 2 _ rfl
    have n3 := bx_cell x2 3 _ rfl
    have n4 := bx_cell x2 4 _ rfl
    have n5 := bx_cell x2 5 _ rfl
    have n6 := bx_cell x2 6 _ rfl
    have Y := Lib.hid (And.intro x0 (And.intro x1 x2))
    have KW := Lib.hid kW
    clear x0 x1 x2 kW
    have R := Lib.hid (fun w' (hk : Kept W w') a b c d => put4 (w := w) (W := w') a b c d (by omega) (KW.out.trans hk) (kh Y.out.2.1 hk))
    clear n1 n2 n4 n5 n6 e2 e3 e4 e5
    go_upto_region 9 with (go_at_call 47; refine (HF.out _ KW.out).mono ?_; rintro e w7 ⟨rfl, k7⟩; have K7 := Lib.hid k7; clear k7)
    have s2 := new4 (w := w7) #[.string ⟨b.name.toArray⟩, .int .i64 b.t, .int .i64 b.size, .int .i64 b.id] 63 (Kept.refl w7)
    generalize w7.alloc (.cells #[.string ⟨b.name.toArray⟩, .int .i64 b.t, .int .i64 b.size, .int .i64 b.id] 63) = W8 at *
    generalize w7.heap.size = d at *
    clear n0 n3 e0 e1 r0 r1 r2 r3 rf
    have K8 := Lib.hid (K7.out.trans s2.2)
    have e0 := bx_cell (kh Y.out.1 K8.out) 0 _ rfl
    have r0 := bx_cell (kh Y.out.2.1 K8.out) 0 _ rfl
    have r1 := bx_cell (kh Y.out.2.1 K8.out) 1 _ rfl
    have r2 := bx_cell (kh Y.out.2.1 K8.out) 2 _ rfl
    have r3 := bx_cell (kh Y.out.2.1 K8.out) 3 _ rfl
    have rf := bx_froz (kh Y.out.2.1 K8.out)
    have b0 := bx_cell s2.1 0 _ rfl
    have b1 := bx_cell s2.1 1 _ rfl
    have b2 := bx_cell s2.1 2 _ rfl
    have b3 := bx_cell s2.1 3 _ rfl
    clear s2 K7
    go_wp2_with (go_at_call 41; refine (HG.out _ (KW.out.trans K8.out)).mono ?_; rintro e w9 ⟨rfl, rfl⟩)
    (have s := R.out _ K8.out (.int .i64 G.1) (.int .i64 b.t) (.int .i64 0) (.int .i64 0); have z0 := bx_cell s.1 0 _ rfl; have z1 := bx_cell s.1 1 _ rfl; have z2 := bx_cell s.1 2 _ rfl; have z3 := bx_cell s.1 3 _ rfl; have S := Lib.hid s.2; clear s; clear r0 r1 r2 r3 e0 b0 b1 b2 b3; simp [bodyPost, results, Try.f28, go_sem, z0, z1, z2, z3]; exact S.out)
/-- The step: out of what the nodes ahead tell. -/
theorem rv_step {w : World} {lv mv bv ov obv : Value} {l : List Ex} {i : Nat} {E : Env} (hL : ListAt w lv l) (hD : Down l) (hi : i < l.length) (hE : REnvAt w mv bv ov obv E) (hA : Ahead w lv l i) :
    Calls Try.prog 28 #[lv, .int .i64 (i : Int), envVal mv bv ov obv E] w fun e w' => e = .returned (ansVal (valA l E ((i : Int), 0))) ∧ Kept w w' := by
  have hk := hD i hi
  have ha := hA mv bv ov obv E hE l[i].a hk.1
  have hb := hA mv bv ov obv E hE l[i].b hk.2
  rw [valA_at hD hi]
  have he : envT E 0 = E := rfl
  rw [he]
  have out : ∀ t : Nat, valA l E (-1, t) = Ans.none := fun t => valA_out (.inl (show (-1 : Int) < 0 by omega))
  rcases (show l[i].kind = 1 ∨ l[i].kind = 2 ∨ l[i].kind = 3 ∨ l[i].kind = 4 ∨ l[i].kind = 5 ∨ (l[i].kind = 0 ∨ 5 < l[i].kind) by omega) with h | h | h | h | h | h
  · have e1 : closeA l[i] E (valA l E (kidA l[i] 0)) (valA l E (kidB l[i] 0)) = ⟨l[i].num, l[i].ty, 0, 0⟩ := by
      unfold kidA kidB
      rw [if_neg (by omega), if_neg (by unfold twoK oneK; omega), if_neg (by unfold twoK; omega), out, close_no rfl rfl]
      unfold nodeA
      rw [if_pos h]
    rw [e1]
    exact rv_num hL hi hE h
  · have e1 : closeA l[i] E (valA l E (kidA l[i] 0)) (valA l E (kidB l[i] 0)) = namedA l[i] E 0 := by
      unfold kidA kidB
      rw [if_neg (by omega), if_neg (by unfold twoK oneK; omega), if_neg (by unfold twoK; omega), out, close_no rfl rfl]
      unfold nodeA
      rw [if_neg (by omega), if_pos (.inl h)]
      rfl
    rw [e1]
    cases hf : findF E.binds l[i].name with
    | none =>
      have e2 : namedA l[i] E 0 = Ans.none := by unfold namedA bindF; rw [hf]; cases E.mem <;> rfl
      rw [e2]
      exact rv_var_none hL hi hE h hf
    | some b =>
      rcases hE.mem with ⟨hmv, hm⟩ | ⟨B, p, v, L, hmv, hM, hm⟩
      · have e2 : namedA l[i] E 0 = Ans.none := by unfold namedA bindF; rw [hm]
        rw [e2]
        exact rv_var_nil hL hi hE h hf hmv
      · have e2 : namedA l[i] E 0 = ⟨(getV L b.id 0).1, b.t, 0, 0⟩ := by
          unfold namedA bindF
          rw [hm, hf]
          simp only [Option.map_some]
          rw [if_neg (by omega)]
        rw [e2]
        exact rv_var_some hL hi hE h hf hmv hM
  · have e1 : closeA l[i] E (valA l E (kidA l[i] 0)) (valA l E (kidB l[i] 0)) = elemA l[i] E (valA l E (l[i].a, 0)) := by
      unfold kidA kidB
      rw [if_neg (by omega), if_pos (.inr (by unfold oneK; omega)), if_neg (by unfold twoK; omega), out]
      have hn : nodeA l[i] E (valA l E (l[i].a, 0)) Ans.none = namedA l[i] E (valA l E (l[i].a, 0)).v := by
        unfold nodeA
        rw [if_neg (by omega), if_pos (.inr h)]
      unfold elemA
      by_cases hu : (valA l E (l[i].a, 0)).ub ≠ 0
      · rw [close_ub hu, if_pos hu, hn]
      · rw [close_no (by omega) rfl, if_neg hu, hn]
    rw [e1]
    exact rv_elem hL hi hE h ha
  · have e1 : closeA l[i] E (valA l E (kidA l[i] 0)) (valA l E (kidB l[i] 0)) = valA l E.past (l[i].a, 0) := by
      unfold kidA kidB
      rw [if_pos h, if_neg (by unfold twoK; omega), out]
      rw [show valA l E (l[i].a, 1) = valA l E.past (l[i].a, 0) from valA_past l E _]
      have hub := valF_ub l ((l[i].a, 0) : Int × Nat).1.toNat.succ E.past (l[i].a, 0)
      rw [show valF l E.past ((l[i].a, 0) : Int × Nat).1.toNat.succ (l[i].a, 0) = valA l E.past (l[i].a, 0) from rfl] at hub
      generalize valA l E.past (l[i].a, 0) = A at *
      have hn : nodeA l[i] E A Ans.none = A := by
        unfold nodeA
        rw [if_neg (by omega), if_neg (by omega), if_pos h]
      by_cases hu : A.ub ≠ 0
      · rw [close_ub hu, hn]
        have := hub hu
        obtain ⟨a1, a2, a3, a4⟩ := A
        simp only at this
        subst this
        rfl
      · rw [close_no (by omega) rfl, hn]
    rw [e1]
    exact rv_old hL hi hE h (hA ov obv ov obv E.past hE.past l[i].a hk.1)
  · have e1 : closeA l[i] E (valA l E (kidA l[i] 0)) (valA l E (kidB l[i] 0)) = ⟨E.res, E.t, 0, 0⟩ := by
      unfold kidA kidB
      rw [if_neg (by omega), if_neg (by unfold twoK oneK; omega), if_neg (by unfold twoK; omega), out, close_no rfl rfl]
      unfold nodeA
      rw [if_neg (by omega), if_neg (by omega), if_neg (by omega), if_pos h]
    rw [e1]
    exact rv_result hL hi hE h
  · refine rv_node hL hi hE h fun W hW => ?_
    have hE' := hE.kept hW
    have ha' := ha.kept hW
    have hb' := hb.kept hW
    rcases (show (8 ≤ l[i].kind ∧ l[i].kind ≤ 15) ∨ (l[i].kind = 16 ∨ l[i].kind = 17) ∨ (l[i].kind = 6 ∨ l[i].kind = 7) ∨ l[i].kind = 18 ∨ (l[i].kind = 0 ∨ 18 < l[i].kind) by omega) with h1 | h1 | h1 | h1 | h1
    · have e1 : kidA l[i] 0 = (l[i].a, 0) := by unfold kidA; rw [if_neg (by omega), if_pos (.inl (by unfold twoK; omega))]
      have e2 : kidB l[i] 0 = (l[i].b, 0) := by unfold kidB; rw [if_pos (by unfold twoK; omega)]
      rw [e1, e2]
      exact node_two_any hE' h1 ha' hb'
    · have e1 : kidA l[i] 0 = (l[i].a, 0) := by unfold kidA; rw [if_neg (by omega), if_pos (.inl (by unfold twoK; omega))]
      have e2 : kidB l[i] 0 = (l[i].b, 0) := by unfold kidB; rw [if_pos (by unfold twoK; omega)]
      rw [e1, e2]
      exact node_sh_any hE' h1 ha' hb'
    · have e1 : kidA l[i] 0 = (l[i].a, 0) := by unfold kidA; rw [if_neg (by omega), if_pos (.inr (by unfold oneK; omega))]
      have e2 : kidB l[i] 0 = (-1, 0) := by unfold kidB; rw [if_neg (by unfold twoK; omega)]
      rw [e1, e2, out]
      exact node_un_any hE' h1 ha'
    · have e1 : kidA l[i] 0 = (l[i].a, 0) := by unfold kidA; rw [if_neg (by omega), if_pos (.inr (by unfold oneK; omega))]
      have e2 : kidB l[i] 0 = (-1, 0) := by unfold kidB; rw [if_neg (by unfold twoK; omega)]
      rw [e1, e2, out]
      exact node_cast_any hE' h1 ha'
    · have e1 : kidA l[i] 0 = (-1, 0) := by unfold kidA; rw [if_neg (by omega), if_neg (by unfold twoK oneK; omega)]
      have e2 : kidB l[i] 0 = (-1, 0) := by unfold kidB; rw [if_neg (by unfold twoK; omega)]
      rw [e1, e2, out]
      exact node_no_any hE' h1
set_option maxRecDepth 100000 in
set_option maxHeartbeats 4000000 in
theorem rv_off {w : World} {lv mv bv ov obv : Value} {l : List Ex} {E : Env} (hL : ListAt w lv l) (at_ : Int) (h : at_ < 0 ∨ (l.length : Int) ≤ at_) :
    Calls Try.prog 28 #[lv, .int .i64 at_, envVal mv bv ov obv E] w fun e w' => e = .returned (ansVal Ans.none) ∧ Kept w w' := by
  have hlen := hL.1
  obtain ⟨la, lc, hlv⟩ := hL.form
  subst hlv
  clear hL
  unfold ansVal Ans.none envVal
  simp only
  rcases h with h | h
  all_goals
    go_enter Try.func28, Try.ntmps28
    go_upto_region 1 with fail
    obtain ⟨v0, v1, kV⟩ := two w (.cells #[mv, bv, ov, obv, .int .i64 E.res, .int .i64 E.t] 35) (.cells #[.int .i64 0, .int .i64 0, .int .i64 0, .int .i64 0] 77)
    generalize ((w.alloc (.cells #[mv, bv, ov, obv, .int .i64 E.res, .int .i64 E.t] 35)).alloc (.cells #[.int .i64 0, .int .i64 0, .int .i64 0, .int .i64 0] 77)) = V at *
    have r0 := bx_cell v1 0 _ rfl
    have r1 := bx_cell v1 1 _ rfl
    have r2 := bx_cell v1 2 _ rfl
    have r3 := bx_cell v1 3 _ rfl
    have rf := bx_froz v1
    have s := Lib.hid (put4 (w := w) (.int .i64 0) (.int .i64 5) (.int .i64 0) (.int .i64 0) (by omega) kV v1)
    clear v0 v1 kV
    go_wp2
    have z0 := bx_cell s.out.1 0 _ rfl
    have z1 := bx_cell s.out.1 1 _ rfl
    have z2 := bx_cell s.out.1 2 _ rfl
    have z3 := bx_cell s.out.1 3 _ rfl
    clear r0 r1 r2 r3
    simp [bodyPost, results, Try.f28, go_sem, z0, z1, z2, z3]
    exact s.out.2
theorem ahead_any {lv : Value} {l : List Ex} (hD : Down l) : ∀ i, ∀ w, ListAt w lv l → Ahead w lv l i := by
  intro i
  induction i with
  | zero =>
    intro w hL mv bv ov obv E _ a ha w1 hk
    rw [valA_out (.inl (by simpa using ha))]
    exact rv_off (hL.kept hk) a (.inl (by simpa using ha))
  | succ i ih =>
    intro w hL mv bv ov obv E hE a ha w1 hk
    by_cases h0 : a < i
    · exact ih w hL mv bv ov obv E hE a h0 w1 hk
    obtain rfl : a = (i : Int) := by omega
    by_cases hi : i < l.length
    · exact rv_step (hL.kept hk) hD hi (hE.kept hk) (ih w1 (hL.kept hk))
    · rw [valA_out (.inr (by show (l.length : Int) ≤ (i : Int); omega))]
      exact rv_off (hL.kept hk) _ (.inr (by omega))
/-- What value tells of any node, of a list whose kids stand ahead. -/
theorem rvalue_any {w : World} {lv mv bv ov obv : Value} {l : List Ex} {E : Env} (hL : ListAt w lv l) (hD : Down l) (hE : REnvAt w mv bv ov obv E) (at_ : Int) :
    Calls Try.prog 28 #[lv, .int .i64 at_, envVal mv bv ov obv E] w fun e w' => e = .returned (ansVal (valA l E (at_, 0))) ∧ Kept w w' :=
  ahead_any hD (at_.toNat + 1) w hL mv bv ov obv E hE at_ (by omega) w (Kept.refl w)
end Go.Proofs.Ytnlkcjbnmkpnhaa.Evl
namespace Go.Proofs.Ytnlkcjbnmkpnhaa
open Go.ChangeShapes Go.WideShapes Go.ChangeAt Go.RowKit

/-- A slice of structs of k integers (of Go's int): nil, or its cells: element i's field j is a number. -/
def IsInts (k : Nat) (w : World) (a : Option Addr) (len cap : Nat) : Prop :=
  (a = none ∧ len = 0 ∧ cap = 0) ∨
  ∃ x, a = some x ∧ len ≤ cap ∧ cap ≤ maxLen ∧ ∀ i, i < len → ∀ j, j < k → ∃ n, w.cell? (x.add (i * k + j)) = some (.int .i64 n) ∧ (Lit.int .i64 n).wf = true

theorem add_add' (a : Addr) (i j : Nat) : (a.add i).add j = a.add (i + j) := by
  unfold Addr.add
  split <;> split <;> simp_all <;> omega

theorem open_structs {H : Type} {enc : TypeId × Value → H} {P : Program} {w : World} {base : Nat} {spare : Nat → Bool} {held : Bool} {t e tf : TypeId} {fs : Array Field} {fuel : Nat} {a : Option Addr} {len cap : Nat} {x : DataW H × List MemPlace}
    (ht : P.underlying t = some (.slice e)) (he : P.underlying e = some (.struct fs)) (hf : P.underlying tf = some (.int .i64)) (ce : P.cellsOf e = fs.size) (cf : P.cellsOf tf = 1)
    (hfs : ∀ (j : Nat) (f : Field), fs[j]? = some f → f.offset = j ∧ f.type = tf)
    (h : DataW.trod enc P w base spare held fuel t [.slice a len cap] = some x) : IsInts fs.size w a len cap := by
  rcases Go.Deep.open_slice ht h with ⟨hcs, _⟩ | ⟨a', l', c', m, n, D, Pl, hcs, _, hl, hm, hmm, _, hx⟩
  · simp at hcs
    exact .inl hcs
  · simp at hcs
    obtain ⟨rfl, rfl, rfl⟩ := hcs
    refine .inr ⟨a', rfl, hl, hm, fun i hi j hj => ?_⟩
    have him : i < m := by rw [hmm]; split <;> omega
    obtain ⟨cs', h1, h2⟩ := hx i him
    obtain ⟨_, hlen, hcell⟩ := World.cells?_some h1
    obtain ⟨xs, q, _, _, _, hxl, hff⟩ := DataW.trod_struct he h2
    have e1 : fs[j]? = some fs[j] := by simp [hj]
    have g := hff j fs[j] e1
    obtain ⟨o1, o2⟩ := hfs j fs[j] e1
    rw [o1, o2, cf, List.getElem?_eq_getElem (by omega)] at g
    obtain ⟨z, g1, _, g2⟩ := DataW.trod_int hf g
    refine ⟨z, ?_, g2⟩
    have h3 := hcell j (by omega)
    rw [add_add', ce] at h3
    rw [h3]
    have h4 : (List.take 1 (List.drop j cs'))[0]? = some (.int .i64 z) := by rw [g1]; rfl
    rw [List.getElem?_take, if_pos (by omega), List.getElem?_drop, Nat.add_zero] at h4
    exact h4
end Go.Proofs.Ytnlkcjbnmkpnhaa
