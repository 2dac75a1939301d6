/-
  Contracts of typ.In and of the document's answer for it (typ.Wrap: XTypW), for a seat without the rows of layer 1: each returns what a plain function gives, and leaves the world alone. No condition.
-/
import Derived.Test.YthjnkjekidagiaaBase
import Derived.Test.YthjnkjekidagiaaRows
import Derived.Test.YthjnkjekidagiaaPlain
import Derived.Test.YthjnkjekidagiaaTypW
import Derived.WalkKit
import Derived.WalkSpells
import Derived.WalkLawsBesides
import Derived.IntWalk
import Derived.Outline
namespace Go.Proofs.Ythjnkjekidagiaa.Typ
open Go.RowKit

set_option maxHeartbeats 2000000 in
theorem in_any (t v : Int) (w : World) : Calls Try.prog 108 #[.int .i64 t, .int .i64 v] w fun e w' => e = .returned (.bool (inF t v)) ∧ w = w' := by
  rcases eight t with rfl | rfl | rfl | rfl | rfl | rfl | ⟨hn, hlt⟩ | ⟨hn, hlt⟩
  · rcases (show v < -128 ∨ (-128 ≤ v ∧ v ≤ 127) ∨ 127 < v by omega) with h | ⟨h, h'⟩ | h
    · have e0 : inF 1 v = false := by unfold inF minF maxF; simp; omega
      rw [e0]; clear e0
      go_enter Try.func108, Try.ntmps108
      go_wp2
      go_ret
      first | exact ⟨rfl, rfl⟩ | exact ⟨ret_bool (by simp; omega), rfl⟩
    · have e0 : inF 1 v = true := by unfold inF minF maxF; simp; omega
      rw [e0]; clear e0
      go_enter Try.func108, Try.ntmps108
      go_wp2
      go_ret
      first | exact ⟨rfl, rfl⟩ | exact ⟨ret_bool (by simp; omega), rfl⟩
    · have e0 : inF 1 v = false := by unfold inF minF maxF; simp; omega
      rw [e0]; clear e0
      go_enter Try.func108, Try.ntmps108
      go_wp2
      go_ret
      first | exact ⟨rfl, rfl⟩ | exact ⟨ret_bool (by simp; omega), rfl⟩
  · rcases (show v < 0 ∨ (0 ≤ v ∧ v ≤ 255) ∨ 255 < v by omega) with h | ⟨h, h'⟩ | h
    · have e0 : inF 2 v = false := by unfold inF minF maxF; simp; omega
      rw [e0]; clear e0
      go_enter Try.func108, Try.ntmps108
      go_wp2
      go_ret
      first | exact ⟨rfl, rfl⟩ | exact ⟨ret_bool (by simp; omega), rfl⟩
    · have e0 : inF 2 v = true := by unfold inF minF maxF; simp; omega
      rw [e0]; clear e0
      go_enter Try.func108, Try.ntmps108
      go_wp2
      go_ret
      first | exact ⟨rfl, rfl⟩ | exact ⟨ret_bool (by simp; omega), rfl⟩
    · have e0 : inF 2 v = false := by unfold inF minF maxF; simp; omega
      rw [e0]; clear e0
      go_enter Try.func108, Try.ntmps108
      go_wp2
      go_ret
      first | exact ⟨rfl, rfl⟩ | exact ⟨ret_bool (by simp; omega), rfl⟩
  · rcases (show v < -32768 ∨ (-32768 ≤ v ∧ v ≤ 32767) ∨ 32767 < v by omega) with h | ⟨h, h'⟩ | h
    · have e0 : inF 3 v = false := by unfold inF minF maxF; simp; omega
      rw [e0]; clear e0
      go_enter Try.func108, Try.ntmps108
      go_wp2
      go_ret
      first | exact ⟨rfl, rfl⟩ | exact ⟨ret_bool (by simp; omega), rfl⟩
    · have e0 : inF 3 v = true := by unfold inF minF maxF; simp; omega
      rw [e0]; clear e0
      go_enter Try.func108, Try.ntmps108
      go_wp2
      go_ret
      first | exact ⟨rfl, rfl⟩ | exact ⟨ret_bool (by simp; omega), rfl⟩
    · have e0 : inF 3 v = false := by unfold inF minF maxF; simp; omega
      rw [e0]; clear e0
      go_enter Try.func108, Try.ntmps108
      go_wp2
      go_ret
      first | exact ⟨rfl, rfl⟩ | exact ⟨ret_bool (by simp; omega), rfl⟩
  · rcases (show v < 0 ∨ (0 ≤ v ∧ v ≤ 65535) ∨ 65535 < v by omega) with h | ⟨h, h'⟩ | h
    · have e0 : inF 4 v = false := by unfold inF minF maxF; simp; omega
      rw [e0]; clear e0
      go_enter Try.func108, Try.ntmps108
      go_wp2
      go_ret
      first | exact ⟨rfl, rfl⟩ | exact ⟨ret_bool (by simp; omega), rfl⟩
    · have e0 : inF 4 v = true := by unfold inF minF maxF; simp; omega
      rw [e0]; clear e0
      go_enter Try.func108, Try.ntmps108
      go_wp2
      go_ret
      first | exact ⟨rfl, rfl⟩ | exact ⟨ret_bool (by simp; omega), rfl⟩
    · have e0 : inF 4 v = false := by unfold inF minF maxF; simp; omega
      rw [e0]; clear e0
      go_enter Try.func108, Try.ntmps108
      go_wp2
      go_ret
      first | exact ⟨rfl, rfl⟩ | exact ⟨ret_bool (by simp; omega), rfl⟩
  · rcases (show v < -2147483648 ∨ (-2147483648 ≤ v ∧ v ≤ 2147483647) ∨ 2147483647 < v by omega) with h | ⟨h, h'⟩ | h
    · have e0 : inF 5 v = false := by unfold inF minF maxF; simp; omega
      rw [e0]; clear e0
      go_enter Try.func108, Try.ntmps108
      go_wp2
      go_ret
      first | exact ⟨rfl, rfl⟩ | exact ⟨ret_bool (by simp; omega), rfl⟩
    · have e0 : inF 5 v = true := by unfold inF minF maxF; simp; omega
      rw [e0]; clear e0
      go_enter Try.func108, Try.ntmps108
      go_wp2
      go_ret
      first | exact ⟨rfl, rfl⟩ | exact ⟨ret_bool (by simp; omega), rfl⟩
    · have e0 : inF 5 v = false := by unfold inF minF maxF; simp; omega
      rw [e0]; clear e0
      go_enter Try.func108, Try.ntmps108
      go_wp2
      go_ret
      first | exact ⟨rfl, rfl⟩ | exact ⟨ret_bool (by simp; omega), rfl⟩
  · rcases (show v < 0 ∨ (0 ≤ v ∧ v ≤ 4294967295) ∨ 4294967295 < v by omega) with h | ⟨h, h'⟩ | h
    · have e0 : inF 6 v = false := by unfold inF minF maxF; simp; omega
      rw [e0]; clear e0
      go_enter Try.func108, Try.ntmps108
      go_wp2
      go_ret
      first | exact ⟨rfl, rfl⟩ | exact ⟨ret_bool (by simp; omega), rfl⟩
    · have e0 : inF 6 v = true := by unfold inF minF maxF; simp; omega
      rw [e0]; clear e0
      go_enter Try.func108, Try.ntmps108
      go_wp2
      go_ret
      first | exact ⟨rfl, rfl⟩ | exact ⟨ret_bool (by simp; omega), rfl⟩
    · have e0 : inF 6 v = false := by unfold inF minF maxF; simp; omega
      rw [e0]; clear e0
      go_enter Try.func108, Try.ntmps108
      go_wp2
      go_ret
      first | exact ⟨rfl, rfl⟩ | exact ⟨ret_bool (by simp; omega), rfl⟩
  · obtain ⟨-, -, -, -, -, -, e0, -⟩ := none_of hn
    obtain ⟨h1, h2, h3, h4, h5, h6⟩ := hn
    rw [e0]; clear e0
    go_enter Try.func108, Try.ntmps108
    go_wp2
    go_ret
    first | exact ⟨rfl, rfl⟩ | exact ⟨ret_bool (by simp; omega), rfl⟩
  · obtain ⟨-, -, -, -, -, -, e0, -⟩ := none_of hn
    obtain ⟨h1, h2, h3, h4, h5, h6⟩ := hn
    rw [e0]; clear e0
    go_enter Try.func108, Try.ntmps108
    go_wp2
    go_ret
    first | exact ⟨rfl, rfl⟩ | exact ⟨ret_bool (by simp; omega), rfl⟩

end Go.Proofs.Ythjnkjekidagiaa.Typ
