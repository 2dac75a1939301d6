/-
  Contract of the document's answer's SameBlock: are two blocks one?
-/
import Derived.Test.YthjnkjekidagiaaMemI
namespace Go.Proofs.Ythjnkjekidagiaa.Mem
open Go.RowKit

set_option maxHeartbeats 2000000 in
theorem same_any (w : World) {B C : Nat} {v u : Value} {l m : List Int} (a b : Int) (h1 : w.ownsRow B 3 1 v l.length (ints l)) (h2 : w.ownsRow C 3 1 u m.length (ints m)) :
    Calls Try.prog 26 #[.agg #[.int .i64 a, v], .agg #[.int .i64 b, u]] w fun e w' => e = .returned (.bool (a == b && l == m)) ∧ Kept w w' := by
  have k1 := ((h1.alloc (.cells #[.int .i64 a, v] 62)).alloc (.cells #[.int .i64 b, u] 62))
  have k2 := ((h2.alloc (.cells #[.int .i64 a, v] 62)).alloc (.cells #[.int .i64 b, u] 62))
  have HI := ints_any _ k1 k2
  have n1 : ((w.alloc (.cells #[.int .i64 a, v] 62)).alloc (.cells #[.int .i64 b, u] 62)).heap[w.heap.size]? = some (.cells #[.int .i64 a, v] 62 (0, 0)) := by
    rw [Below.heap_alloc _ _ _ (by simp)]; exact heap_alloc_new _ _
  have n2 : ((w.alloc (.cells #[.int .i64 a, v] 62)).alloc (.cells #[.int .i64 b, u] 62)).heap[w.heap.size + 1]? = some (.cells #[.int .i64 b, u] 62 (0, 0)) := by
    have := heap_alloc_new (w.alloc (.cells #[.int .i64 a, v] 62)) (.cells #[.int .i64 b, u] 62)
    simpa using this
  have z0 := box_cell n1 0 _ rfl
  have z1 := box_cell n1 1 _ rfl
  have y0 := box_cell n2 0 _ rfl
  have y1 := box_cell n2 1 _ rfl
  clear k1 k2 n1 n2 h1 h2
  cases hab : (a == b)
  all_goals
    go_enter Try.func26, Try.ntmps26
    go_wp2_with (first | (go_at_call 39; refine HI.mono ?_; rintro e w' ⟨rfl, n, rfl⟩))
    go_ret
    exact ⟨rfl, by repeat (first | exact Kept.refl _ | apply Kept.drewN | apply Kept.drew | apply Kept.alloc)⟩
end Go.Proofs.Ythjnkjekidagiaa.Mem
