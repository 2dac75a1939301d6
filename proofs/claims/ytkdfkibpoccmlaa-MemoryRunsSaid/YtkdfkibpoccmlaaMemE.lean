/-
  Contract of the laws' own awake() for package memory. No condition.
-/
import Derived.Test.YtkdfkibpoccmlaaMemD
namespace Go.Proofs.Ytkdfkibpoccmlaa.Mem
open Go.RowKit

/-- A change of blocks that are new is none of what was there. -/
theorem kept_new {S : Nat → Prop} {w w1 w2 : World} (h : Kept w w1) (hc : Chg S w1 w2) (hs : ∀ k, k < w.heap.size → ¬ S k) : Kept w w2 :=
  ((Chg.of_kept (S := S) h).then hc).kept hs
theorem new_kept (w : World) : Kept w (w.alloc (.cells #[.slice none 0 0] 51)) := (Kept.refl w).alloc _

theorem awake_any (w : World) : Calls Try.prog 7 #[] w fun e w' => e = .returned (.bool true) ∧ Hid (Kept w w') := by
  have HA := add_any (new_at w w.heap.size (Nat.le_refl _)) (by simp) (by simp) 5 3 (by omega)
  have HK := Lib.hid (new_kept w)
  go_enter Try.func7, Try.ntmps7
  go_wp2_with (first | (go_at_call 8; refine (new_any _).mono ?_; rintro e w' ⟨rfl, rfl⟩) | (go_at_call 9; refine HA.mono ?_; rintro e w1 ⟨rfl, H1⟩) | (go_at_call 13; obtain ⟨v1, g1, hg1, hM1, hC1, hV1⟩ := H1.out; have HM1 := Lib.hid hM1; have HC1 := Lib.hid hC1; clear hg1 hM1 hC1 hV1; refine (get_any HM1.out _ _).mono ?_; rintro e w2 ⟨rfl, rfl⟩))
  go_ret
  exact ⟨rfl, Lib.hid (kept_new HK.out HC1.out (fun k hk h => by simp [Value.ownBlock] at h; omega))⟩
end Go.Proofs.Ytkdfkibpoccmlaa.Mem
