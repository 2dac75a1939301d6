/-
  Contracts of typ.Wrap and of the document's answer for it, for a seat with neither the rows of layer 1 nor typ.In: each returns what a plain function gives, and leaves the world alone. No condition.
-/
import Derived.Test.YthjnkjekidagiaaBase
import Derived.Test.YthjnkjekidagiaaRows
import Derived.Test.YthjnkjekidagiaaPlain
import Derived.WalkKit
import Derived.WalkSpells
import Derived.WalkLawsBesides
import Derived.IntWalk
import Derived.Outline
namespace Go.Proofs.Ythjnkjekidagiaa.Typ
open Go.RowKit

set_option maxHeartbeats 2000000 in
theorem wrap_any (t v : Int) (w : World) : Calls Try.prog 29 #[.int .i64 t, .int .i64 v] w fun e w' => e = .returned (.int .i64 (wrapF t v)) ∧ w = w' := by
  rcases eight t with rfl | rfl | rfl | rfl | rfl | rfl | ⟨hn, hlt⟩ | ⟨hn, hlt⟩
  · have hb := and_8 v
    by_cases hm : 127 < v % 256
    all_goals
      go_enter Try.func29, Try.ntmps29
      go_wp2
      go_ret
      exact ⟨ret_int (by unfold wrapF; simp <;> omega), rfl⟩
  · have hb := and_8 v
    by_cases hm : 255 < v % 256
    all_goals
      go_enter Try.func29, Try.ntmps29
      go_wp2
      go_ret
      exact ⟨ret_int (by unfold wrapF; simp <;> omega), rfl⟩
  · have hb := and_16 v
    by_cases hm : 32767 < v % 65536
    all_goals
      go_enter Try.func29, Try.ntmps29
      go_wp2
      go_ret
      exact ⟨ret_int (by unfold wrapF; simp <;> omega), rfl⟩
  · have hb := and_16 v
    by_cases hm : 65535 < v % 65536
    all_goals
      go_enter Try.func29, Try.ntmps29
      go_wp2
      go_ret
      exact ⟨ret_int (by unfold wrapF; simp <;> omega), rfl⟩
  · have hb := and_32 v
    by_cases hm : 2147483647 < v % 4294967296
    all_goals
      go_enter Try.func29, Try.ntmps29
      go_wp2
      go_ret
      exact ⟨ret_int (by unfold wrapF; simp <;> omega), rfl⟩
  · have hb := and_32 v
    by_cases hm : 4294967295 < v % 4294967296
    all_goals
      go_enter Try.func29, Try.ntmps29
      go_wp2
      go_ret
      exact ⟨ret_int (by unfold wrapF; simp <;> omega), rfl⟩
  · obtain ⟨-, -, -, -, -, -, -, e0⟩ := none_of hn
    obtain ⟨h1, h2, h3, h4, h5, h6⟩ := hn
    rw [e0]; clear e0
    have hb := and_0 v
    go_enter Try.func29, Try.ntmps29
    go_wp2
    go_ret
    exact ⟨rfl, rfl⟩
  · obtain ⟨-, -, -, -, -, -, -, e0⟩ := none_of hn
    obtain ⟨h1, h2, h3, h4, h5, h6⟩ := hn
    rw [e0]; clear e0
    have hb := and_0 v
    go_enter Try.func29, Try.ntmps29
    go_wp2
    go_ret
    exact ⟨rfl, rfl⟩

set_option maxHeartbeats 2000000 in
theorem rwrap_any (t v : Int) (w : World) : Calls Try.prog 36 #[.int .i64 t, .int .i64 v] w fun e w' => e = .returned (.int .i64 (wrapF t v)) ∧ w = w' := by
  rcases eight t with rfl | rfl | rfl | rfl | rfl | rfl | ⟨hn, hlt⟩ | ⟨hn, hlt⟩
  · go_enter Try.func36, Try.ntmps36
    go_wp2
    go_ret
    exact ⟨ret_int (conv_1 v), rfl⟩
  · go_enter Try.func36, Try.ntmps36
    go_wp2
    go_ret
    exact ⟨ret_int (conv_2 v), rfl⟩
  · go_enter Try.func36, Try.ntmps36
    go_wp2
    go_ret
    exact ⟨ret_int (conv_3 v), rfl⟩
  · go_enter Try.func36, Try.ntmps36
    go_wp2
    go_ret
    exact ⟨ret_int (conv_4 v), rfl⟩
  · go_enter Try.func36, Try.ntmps36
    go_wp2
    go_ret
    exact ⟨ret_int (conv_5 v), rfl⟩
  · go_enter Try.func36, Try.ntmps36
    go_wp2
    go_ret
    exact ⟨ret_int (conv_6 v), rfl⟩
  · obtain ⟨-, -, -, -, -, -, -, e0⟩ := none_of hn
    obtain ⟨h1, h2, h3, h4, h5, h6⟩ := hn
    rw [e0]; clear e0
    go_enter Try.func36, Try.ntmps36
    go_wp2
    go_ret
    exact ⟨rfl, rfl⟩
  · obtain ⟨-, -, -, -, -, -, -, e0⟩ := none_of hn
    obtain ⟨h1, h2, h3, h4, h5, h6⟩ := hn
    rw [e0]; clear e0
    go_enter Try.func36, Try.ntmps36
    go_wp2
    go_ret
    exact ⟨rfl, rfl⟩

end Go.Proofs.Ythjnkjekidagiaa.Typ
