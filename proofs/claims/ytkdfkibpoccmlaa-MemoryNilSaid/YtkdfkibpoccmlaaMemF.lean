/-
  Contracts of package memory's methods of a memory that there is not (nil). No condition.
-/
import Derived.Test.YtkdfkibpoccmlaaMemE
namespace Go.Proofs.Ytkdfkibpoccmlaa.Mem
open Go.RowKit

theorem add_nil (t size : Int) (w : World) : Calls Try.prog 9 #[.pointer none, .int .i64 t, .int .i64 size] w fun e w' => e = .returned (.int .i64 (-1)) ∧ w = w' := by
  go_enter Try.func9, Try.ntmps9
  go_wp2
  go_ret
  exact ⟨rfl, rfl⟩
theorem copy_nil (w : World) : Calls Try.prog 17 #[.pointer none] w fun e w' => e = .returned (.pointer none) ∧ w = w' := by
  go_enter Try.func17, Try.ntmps17
  go_wp2
  go_ret
  exact ⟨rfl, rfl⟩
theorem block_nil (id : Int) (w : World) : Calls Try.prog 19 #[.pointer none, .int .i64 id] w fun e w' => e = .returned (.tuple #[.agg #[.int .i64 0, .slice none 0 0], .bool false]) ∧ Kept w w' := by
  go_enter Try.func19, Try.ntmps19
  go_wp2_with (first | (go_at_call 27; refine (there_nil _ _).mono ?_; rintro e w' ⟨rfl, rfl⟩))
  have hc : ∀ j u, (#[Value.int .i64 0, Value.slice none 0 0] : Array Value)[j]? = some u → (w.alloc (.cells #[.int .i64 0, .slice none 0 0] 40)).cell? ⟨w.heap.size, j, none⟩ = some u := fun j u hu => box_cell (heap_alloc_new _ _) j u hu
  have h0 := hc 0 _ rfl
  have h1 := hc 1 _ rfl
  refine bodyPost_ret (v := .tuple #[.agg #[.int .i64 0, .slice none 0 0], .bool false]) ?_ rfl ⟨rfl, (Kept.refl w).alloc _⟩
  simp [results, Try.results19, go_sem, h0, h1]
theorem cut_nil (n : Int) (w : World) : Calls Try.prog 15 #[.pointer none, .int .i64 n] w fun e w' => e = .returned (.tuple #[]) ∧ w = w' := by
  obtain ⟨m, hm, hm0⟩ : ∃ m : Int, (if n < 0 then 0 else n) = m ∧ 0 ≤ m := ⟨_, rfl, by split <;> omega⟩
  go_enter Try.func15, Try.ntmps15
  go_wp2_with (first | (go_at_call 18; refine (len_nil _).mono ?_; rintro e w' ⟨rfl, rfl⟩))
  exact bodyPost_end (results_none rfl _ _ _) rfl ⟨rfl, rfl⟩
end Go.Proofs.Ytkdfkibpoccmlaa.Mem
