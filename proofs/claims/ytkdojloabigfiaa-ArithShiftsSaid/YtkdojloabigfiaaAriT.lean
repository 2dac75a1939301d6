/-
  Contracts of typ.In, typ.Wrap and of the document's answer for them, for a seat without the rows of layer 1: each returns what a plain function gives, and leaves the world alone. No condition.
-/
import Derived.Test.YtkdojloabigfiaaBase
import Derived.Test.YtkdojloabigfiaaRows
import Derived.Test.YtkdojloabigfiaaPlain
import Derived.WalkKit
import Derived.WalkSpells
import Derived.WalkLawsBesides
import Derived.IntWalk
import Derived.Outline
namespace Go.Proofs.Ytkdojloabigfiaa.Typ
open Go.RowKit

set_option maxHeartbeats 2000000 in
theorem in_any (t v : Int) (w : World) : Calls Try.prog 24 #[.int .i64 t, .int .i64 v] w fun e w' => e = .returned (.bool (inF t v)) ∧ w = w' := by
  rcases eight t with rfl | rfl | rfl | rfl | rfl | rfl | ⟨hn, hlt⟩ | ⟨hn, hlt⟩
  · rcases (show v < -128 ∨ (-128 ≤ v ∧ v ≤ 127) ∨ 127 < v by omega) with h | ⟨h, h'⟩ | h
    · have e0 : inF 1 v = false := by unfold inF minF maxF; simp; omega
      rw [e0]; clear e0
      go_enter Try.func24, Try.ntmps24
      go_wp2
      go_ret
      first | exact ⟨rfl, rfl⟩ | exact ⟨ret_bool (by simp; omega), rfl⟩
    · have e0 : inF 1 v = true := by unfold inF minF maxF; simp; omega
      rw [e0]; clear e0
      go_enter Try.func24, Try.ntmps24
      go_wp2
      go_ret
      first | exact ⟨rfl, rfl⟩ | exact ⟨ret_bool (by simp; omega), rfl⟩
    · have e0 : inF 1 v = false := by unfold inF minF maxF; simp; omega
      rw [e0]; clear e0
      go_enter Try.func24, Try.ntmps24
      go_wp2
      go_ret
      first | exact ⟨rfl, rfl⟩ | exact ⟨ret_bool (by simp; omega), rfl⟩
  · rcases (show v < 0 ∨ (0 ≤ v ∧ v ≤ 255) ∨ 255 < v by omega) with h | ⟨h, h'⟩ | h
    · have e0 : inF 2 v = false := by unfold inF minF maxF; simp; omega
      rw [e0]; clear e0
      go_enter Try.func24, Try.ntmps24
      go_wp2
      go_ret
      first | exact ⟨rfl, rfl⟩ | exact ⟨ret_bool (by simp; omega), rfl⟩
    · have e0 : inF 2 v = true := by unfold inF minF maxF; simp; omega
      rw [e0]; clear e0
      go_enter Try.func24, Try.ntmps24
      go_wp2
      go_ret
      first | exact ⟨rfl, rfl⟩ | exact ⟨ret_bool (by simp; omega), rfl⟩
    · have e0 : inF 2 v = false := by unfold inF minF maxF; simp; omega
      rw [e0]; clear e0
      go_enter Try.func24, Try.ntmps24
      go_wp2
      go_ret
      first | exact ⟨rfl, rfl⟩ | exact ⟨ret_bool (by simp; omega), rfl⟩
  · rcases (show v < -32768 ∨ (-32768 ≤ v ∧ v ≤ 32767) ∨ 32767 < v by omega) with h | ⟨h, h'⟩ | h
    · have e0 : inF 3 v = false := by unfold inF minF maxF; simp; omega
      rw [e0]; clear e0
      go_enter Try.func24, Try.ntmps24
      go_wp2
      go_ret
      first | exact ⟨rfl, rfl⟩ | exact ⟨ret_bool (by simp; omega), rfl⟩
    · have e0 : inF 3 v = true := by unfold inF minF maxF; simp; omega
      rw [e0]; clear e0
      go_enter Try.func24, Try.ntmps24
      go_wp2
      go_ret
      first | exact ⟨rfl, rfl⟩ | exact ⟨ret_bool (by simp; omega), rfl⟩
    · have e0 : inF 3 v = false := by unfold inF minF maxF; simp; omega
      rw [e0]; clear e0
      go_enter Try.func24, Try.ntmps24
      go_wp2
      go_ret
      first | exact ⟨rfl, rfl⟩ | exact ⟨ret_bool (by simp; omega), rfl⟩
  · rcases (show v < 0 ∨ (0 ≤ v ∧ v ≤ 65535) ∨ 65535 < v by omega) with h | ⟨h, h'⟩ | h
    · have e0 : inF 4 v = false := by unfold inF minF maxF; simp; omega
      rw [e0]; clear e0
      go_enter Try.func24, Try.ntmps24
      go_wp2
      go_ret
      first | exact ⟨rfl, rfl⟩ | exact ⟨ret_bool (by simp; omega), rfl⟩
    · have e0 : inF 4 v = true := by unfold inF minF maxF; simp; omega
      rw [e0]; clear e0
      go_enter Try.func24, Try.ntmps24
      go_wp2
      go_ret
      first | exact ⟨rfl, rfl⟩ | exact ⟨ret_bool (by simp; omega), rfl⟩
    · have e0 : inF 4 v = false := by unfold inF minF maxF; simp; omega
      rw [e0]; clear e0
      go_enter Try.func24, Try.ntmps24
      go_wp2
      go_ret
      first | exact ⟨rfl, rfl⟩ | exact ⟨ret_bool (by simp; omega), rfl⟩
  · rcases (show v < -2147483648 ∨ (-2147483648 ≤ v ∧ v ≤ 2147483647) ∨ 2147483647 < v by omega) with h | ⟨h, h'⟩ | h
    · have e0 : inF 5 v = false := by unfold inF minF maxF; simp; omega
      rw [e0]; clear e0
      go_enter Try.func24, Try.ntmps24
      go_wp2
      go_ret
      first | exact ⟨rfl, rfl⟩ | exact ⟨ret_bool (by simp; omega), rfl⟩
    · have e0 : inF 5 v = true := by unfold inF minF maxF; simp; omega
      rw [e0]; clear e0
      go_enter Try.func24, Try.ntmps24
      go_wp2
      go_ret
      first | exact ⟨rfl, rfl⟩ | exact ⟨ret_bool (by simp; omega), rfl⟩
    · have e0 : inF 5 v = false := by unfold inF minF maxF; simp; omega
      rw [e0]; clear e0
      go_enter Try.func24, Try.ntmps24
      go_wp2
      go_ret
      first | exact ⟨rfl, rfl⟩ | exact ⟨ret_bool (by simp; omega), rfl⟩
  · rcases (show v < 0 ∨ (0 ≤ v ∧ v ≤ 4294967295) ∨ 4294967295 < v by omega) with h | ⟨h, h'⟩ | h
    · have e0 : inF 6 v = false := by unfold inF minF maxF; simp; omega
      rw [e0]; clear e0
      go_enter Try.func24, Try.ntmps24
      go_wp2
      go_ret
      first | exact ⟨rfl, rfl⟩ | exact ⟨ret_bool (by simp; omega), rfl⟩
    · have e0 : inF 6 v = true := by unfold inF minF maxF; simp; omega
      rw [e0]; clear e0
      go_enter Try.func24, Try.ntmps24
      go_wp2
      go_ret
      first | exact ⟨rfl, rfl⟩ | exact ⟨ret_bool (by simp; omega), rfl⟩
    · have e0 : inF 6 v = false := by unfold inF minF maxF; simp; omega
      rw [e0]; clear e0
      go_enter Try.func24, Try.ntmps24
      go_wp2
      go_ret
      first | exact ⟨rfl, rfl⟩ | exact ⟨ret_bool (by simp; omega), rfl⟩
  · obtain ⟨-, -, -, -, -, -, e0, -⟩ := none_of hn
    obtain ⟨h1, h2, h3, h4, h5, h6⟩ := hn
    rw [e0]; clear e0
    go_enter Try.func24, Try.ntmps24
    go_wp2
    go_ret
    first | exact ⟨rfl, rfl⟩ | exact ⟨ret_bool (by simp; omega), rfl⟩
  · obtain ⟨-, -, -, -, -, -, e0, -⟩ := none_of hn
    obtain ⟨h1, h2, h3, h4, h5, h6⟩ := hn
    rw [e0]; clear e0
    go_enter Try.func24, Try.ntmps24
    go_wp2
    go_ret
    first | exact ⟨rfl, rfl⟩ | exact ⟨ret_bool (by simp; omega), rfl⟩

set_option maxHeartbeats 2000000 in
theorem rin_any (t v : Int) (w : World) : Calls Try.prog 15 #[.int .i64 t, .int .i64 v] w fun e w' => e = .returned (.bool (inF t v)) ∧ w = w' := by
  rcases eight t with rfl | rfl | rfl | rfl | rfl | rfl | ⟨hn, hlt⟩ | ⟨hn, hlt⟩
  · rcases (show v < -128 ∨ (-128 ≤ v ∧ v ≤ 127) ∨ 127 < v by omega) with h | ⟨h, h'⟩ | h
    · have e0 : inF 1 v = false := by unfold inF minF maxF; simp; omega
      rw [e0]; clear e0
      go_enter Try.func15, Try.ntmps15
      go_wp2
      go_ret
      first | exact ⟨rfl, rfl⟩ | exact ⟨ret_bool (by simp; omega), rfl⟩
    · have e0 : inF 1 v = true := by unfold inF minF maxF; simp; omega
      rw [e0]; clear e0
      go_enter Try.func15, Try.ntmps15
      go_wp2
      go_ret
      first | exact ⟨rfl, rfl⟩ | exact ⟨ret_bool (by simp; omega), rfl⟩
    · have e0 : inF 1 v = false := by unfold inF minF maxF; simp; omega
      rw [e0]; clear e0
      go_enter Try.func15, Try.ntmps15
      go_wp2
      go_ret
      first | exact ⟨rfl, rfl⟩ | exact ⟨ret_bool (by simp; omega), rfl⟩
  · rcases (show v < 0 ∨ (0 ≤ v ∧ v ≤ 255) ∨ 255 < v by omega) with h | ⟨h, h'⟩ | h
    · have e0 : inF 2 v = false := by unfold inF minF maxF; simp; omega
      rw [e0]; clear e0
      go_enter Try.func15, Try.ntmps15
      go_wp2
      go_ret
      first | exact ⟨rfl, rfl⟩ | exact ⟨ret_bool (by simp; omega), rfl⟩
    · have e0 : inF 2 v = true := by unfold inF minF maxF; simp; omega
      rw [e0]; clear e0
      go_enter Try.func15, Try.ntmps15
      go_wp2
      go_ret
      first | exact ⟨rfl, rfl⟩ | exact ⟨ret_bool (by simp; omega), rfl⟩
    · have e0 : inF 2 v = false := by unfold inF minF maxF; simp; omega
      rw [e0]; clear e0
      go_enter Try.func15, Try.ntmps15
      go_wp2
      go_ret
      first | exact ⟨rfl, rfl⟩ | exact ⟨ret_bool (by simp; omega), rfl⟩
  · rcases (show v < -32768 ∨ (-32768 ≤ v ∧ v ≤ 32767) ∨ 32767 < v by omega) with h | ⟨h, h'⟩ | h
    · have e0 : inF 3 v = false := by unfold inF minF maxF; simp; omega
      rw [e0]; clear e0
      go_enter Try.func15, Try.ntmps15
      go_wp2
      go_ret
      first | exact ⟨rfl, rfl⟩ | exact ⟨ret_bool (by simp; omega), rfl⟩
    · have e0 : inF 3 v = true := by unfold inF minF maxF; simp; omega
      rw [e0]; clear e0
      go_enter Try.func15, Try.ntmps15
      go_wp2
      go_ret
      first | exact ⟨rfl, rfl⟩ | exact ⟨ret_bool (by simp; omega), rfl⟩
    · have e0 : inF 3 v = false := by unfold inF minF maxF; simp; omega
      rw [e0]; clear e0
      go_enter Try.func15, Try.ntmps15
      go_wp2
      go_ret
      first | exact ⟨rfl, rfl⟩ | exact ⟨ret_bool (by simp; omega), rfl⟩
  · rcases (show v < 0 ∨ (0 ≤ v ∧ v ≤ 65535) ∨ 65535 < v by omega) with h | ⟨h, h'⟩ | h
    · have e0 : inF 4 v = false := by unfold inF minF maxF; simp; omega
      rw [e0]; clear e0
      go_enter Try.func15, Try.ntmps15
      go_wp2
      go_ret
      first | exact ⟨rfl, rfl⟩ | exact ⟨ret_bool (by simp; omega), rfl⟩
    · have e0 : inF 4 v = true := by unfold inF minF maxF; simp; omega
      rw [e0]; clear e0
      go_enter Try.func15, Try.ntmps15
      go_wp2
      go_ret
      first | exact ⟨rfl, rfl⟩ | exact ⟨ret_bool (by simp; omega), rfl⟩
    · have e0 : inF 4 v = false := by unfold inF minF maxF; simp; omega
      rw [e0]; clear e0
      go_enter Try.func15, Try.ntmps15
      go_wp2
      go_ret
      first | exact ⟨rfl, rfl⟩ | exact ⟨ret_bool (by simp; omega), rfl⟩
  · rcases (show v < -2147483648 ∨ (-2147483648 ≤ v ∧ v ≤ 2147483647) ∨ 2147483647 < v by omega) with h | ⟨h, h'⟩ | h
    · have e0 : inF 5 v = false := by unfold inF minF maxF; simp; omega
      rw [e0]; clear e0
      go_enter Try.func15, Try.ntmps15
      go_wp2
      go_ret
      first | exact ⟨rfl, rfl⟩ | exact ⟨ret_bool (by simp; omega), rfl⟩
    · have e0 : inF 5 v = true := by unfold inF minF maxF; simp; omega
      rw [e0]; clear e0
      go_enter Try.func15, Try.ntmps15
      go_wp2
      go_ret
      first | exact ⟨rfl, rfl⟩ | exact ⟨ret_bool (by simp; omega), rfl⟩
    · have e0 : inF 5 v = false := by unfold inF minF maxF; simp; omega
      rw [e0]; clear e0
      go_enter Try.func15, Try.ntmps15
      go_wp2
      go_ret
      first | exact ⟨rfl, rfl⟩ | exact ⟨ret_bool (by simp; omega), rfl⟩
  · rcases (show v < 0 ∨ (0 ≤ v ∧ v ≤ 4294967295) ∨ 4294967295 < v by omega) with h | ⟨h, h'⟩ | h
    · have e0 : inF 6 v = false := by unfold inF minF maxF; simp; omega
      rw [e0]; clear e0
      go_enter Try.func15, Try.ntmps15
      go_wp2
      go_ret
      first | exact ⟨rfl, rfl⟩ | exact ⟨ret_bool (by simp; omega), rfl⟩
    · have e0 : inF 6 v = true := by unfold inF minF maxF; simp; omega
      rw [e0]; clear e0
      go_enter Try.func15, Try.ntmps15
      go_wp2
      go_ret
      first | exact ⟨rfl, rfl⟩ | exact ⟨ret_bool (by simp; omega), rfl⟩
    · have e0 : inF 6 v = false := by unfold inF minF maxF; simp; omega
      rw [e0]; clear e0
      go_enter Try.func15, Try.ntmps15
      go_wp2
      go_ret
      first | exact ⟨rfl, rfl⟩ | exact ⟨ret_bool (by simp; omega), rfl⟩
  · obtain ⟨-, -, -, -, -, -, e0, -⟩ := none_of hn
    obtain ⟨h1, h2, h3, h4, h5, h6⟩ := hn
    rw [e0]; clear e0
    go_enter Try.func15, Try.ntmps15
    go_wp2
    go_ret
    first | exact ⟨rfl, rfl⟩ | exact ⟨ret_bool (by simp; omega), rfl⟩
  · obtain ⟨-, -, -, -, -, -, e0, -⟩ := none_of hn
    obtain ⟨h1, h2, h3, h4, h5, h6⟩ := hn
    rw [e0]; clear e0
    go_enter Try.func15, Try.ntmps15
    go_wp2
    go_ret
    first | exact ⟨rfl, rfl⟩ | exact ⟨ret_bool (by simp; omega), rfl⟩

set_option maxHeartbeats 2000000 in
theorem wrap_any (t v : Int) (w : World) : Calls Try.prog 18 #[.int .i64 t, .int .i64 v] w fun e w' => e = .returned (.int .i64 (wrapF t v)) ∧ w = w' := by
  rcases eight t with rfl | rfl | rfl | rfl | rfl | rfl | ⟨hn, hlt⟩ | ⟨hn, hlt⟩
  · have hb := and_8 v
    by_cases hm : 127 < v % 256
    all_goals
      go_enter Try.func18, Try.ntmps18
      go_wp2
      go_ret
      exact ⟨ret_int (by unfold wrapF; simp <;> omega), rfl⟩
  · have hb := and_8 v
    by_cases hm : 255 < v % 256
    all_goals
      go_enter Try.func18, Try.ntmps18
      go_wp2
      go_ret
      exact ⟨ret_int (by unfold wrapF; simp <;> omega), rfl⟩
  · have hb := and_16 v
    by_cases hm : 32767 < v % 65536
    all_goals
      go_enter Try.func18, Try.ntmps18
      go_wp2
      go_ret
      exact ⟨ret_int (by unfold wrapF; simp <;> omega), rfl⟩
  · have hb := and_16 v
    by_cases hm : 65535 < v % 65536
    all_goals
      go_enter Try.func18, Try.ntmps18
      go_wp2
      go_ret
      exact ⟨ret_int (by unfold wrapF; simp <;> omega), rfl⟩
  · have hb := and_32 v
    by_cases hm : 2147483647 < v % 4294967296
    all_goals
      go_enter Try.func18, Try.ntmps18
      go_wp2
      go_ret
      exact ⟨ret_int (by unfold wrapF; simp <;> omega), rfl⟩
  · have hb := and_32 v
    by_cases hm : 4294967295 < v % 4294967296
    all_goals
      go_enter Try.func18, Try.ntmps18
      go_wp2
      go_ret
      exact ⟨ret_int (by unfold wrapF; simp <;> omega), rfl⟩
  · obtain ⟨-, -, -, -, -, -, -, e0⟩ := none_of hn
    obtain ⟨h1, h2, h3, h4, h5, h6⟩ := hn
    rw [e0]; clear e0
    have hb := and_0 v
    go_enter Try.func18, Try.ntmps18
    go_wp2
    go_ret
    exact ⟨rfl, rfl⟩
  · obtain ⟨-, -, -, -, -, -, -, e0⟩ := none_of hn
    obtain ⟨h1, h2, h3, h4, h5, h6⟩ := hn
    rw [e0]; clear e0
    have hb := and_0 v
    go_enter Try.func18, Try.ntmps18
    go_wp2
    go_ret
    exact ⟨rfl, rfl⟩

set_option maxHeartbeats 2000000 in
theorem rwrap_any (t v : Int) (w : World) : Calls Try.prog 14 #[.int .i64 t, .int .i64 v] w fun e w' => e = .returned (.int .i64 (wrapF t v)) ∧ w = w' := by
  rcases eight t with rfl | rfl | rfl | rfl | rfl | rfl | ⟨hn, hlt⟩ | ⟨hn, hlt⟩
  · go_enter Try.func14, Try.ntmps14
    go_wp2
    go_ret
    exact ⟨ret_int (conv_1 v), rfl⟩
  · go_enter Try.func14, Try.ntmps14
    go_wp2
    go_ret
    exact ⟨ret_int (conv_2 v), rfl⟩
  · go_enter Try.func14, Try.ntmps14
    go_wp2
    go_ret
    exact ⟨ret_int (conv_3 v), rfl⟩
  · go_enter Try.func14, Try.ntmps14
    go_wp2
    go_ret
    exact ⟨ret_int (conv_4 v), rfl⟩
  · go_enter Try.func14, Try.ntmps14
    go_wp2
    go_ret
    exact ⟨ret_int (conv_5 v), rfl⟩
  · go_enter Try.func14, Try.ntmps14
    go_wp2
    go_ret
    exact ⟨ret_int (conv_6 v), rfl⟩
  · obtain ⟨-, -, -, -, -, -, -, e0⟩ := none_of hn
    obtain ⟨h1, h2, h3, h4, h5, h6⟩ := hn
    rw [e0]; clear e0
    go_enter Try.func14, Try.ntmps14
    go_wp2
    go_ret
    exact ⟨rfl, rfl⟩
  · obtain ⟨-, -, -, -, -, -, -, e0⟩ := none_of hn
    obtain ⟨h1, h2, h3, h4, h5, h6⟩ := hn
    rw [e0]; clear e0
    go_enter Try.func14, Try.ntmps14
    go_wp2
    go_ret
    exact ⟨rfl, rfl⟩

end Go.Proofs.Ytkdojloabigfiaa.Typ
