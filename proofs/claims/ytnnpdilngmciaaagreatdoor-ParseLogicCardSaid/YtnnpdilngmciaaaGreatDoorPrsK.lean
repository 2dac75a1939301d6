/-
  The deferred literals of Cond and Program: a reader's fault is recovered, and told.
-/
import Derived.Test.YtnnpdilngmciaaaGreatDoorPrsJ
import Derived.Recover
import Derived.Defers
namespace Go.Proofs.YtnnpdilngmciaaaGreatDoor.Prs
open Go.RowKit
open Lex (Tok Laid)

theorem ta_yes (k p : Int) (w : World) : (Instr.typeAssert (.iface 62 (.agg #[.int .i64 k, .int .i64 p])) 20 62 true).run Tryz.prog w = .ok (.tuple #[.agg #[.int .i64 k, .int .i64 p], .bool true]) w := by kernel_rfl
theorem ta_nil (w : World) : (Instr.typeAssert .nilIface 20 62 true).run Tryz.prog w = .ok (.tuple #[.agg #[.int .i64 0, .int .i64 0], .bool false]) w := by kernel_rfl
set_option maxRecDepth 100000 in
set_option maxHeartbeats 1000000 in
theorem catch_cond (x y z : Nat) (k at_ : Int) (older : List PanicEntry) (w : World) (v : Value) (e a : Int) (hx : w.heap[x]? = some (.cells #[v] 26 (0, 0))) (hy : w.heap[y]? = some (.cells #[.int .i64 e] 27 (0, 0))) (hz : w.heap[z]? = some (.cells #[.int .i64 a] 3 (0, 0))) :
    CallsD Tryz.prog 13 #[.pointer (some ⟨x, 0, none⟩), .pointer (some ⟨y, 0, none⟩), .pointer (some ⟨z, 0, none⟩)] (.panicking ({ v := faultV k at_, recovered := false } :: older)) w fun e u' w' =>
      e = .returned (.tuple #[]) ∧ u' = .panicking ({ v := faultV k at_, recovered := true } :: older) ∧ Hid (Chg (fun j => j = x ∨ j = y ∨ j = z) w w' ∧ w'.heap[x]? = some (.cells #[.slice none 0 0] 26 (0, 0)) ∧ w'.heap[y]? = some (.cells #[.int .i64 k] 27 (0, 0)) ∧ w'.heap[z]? = some (.cells #[.int .i64 at_] 3 (0, 0))) := by
  refine callsD_of_wpS Tryz.func13 rfl fun c₀ cs hu => ?_
  unfold faultV at hu ⊢
  apply wpS_seq
  apply wpS_region
  simp [wpOpsS, go_sem, recoverD, hu, Tryz.ntmps13, Exit.thenS, ta_yes]
  refine wpS_of_wp ?_
  have cx := box_cell hx 0 _ rfl
  have cy := box_cell hy 0 _ rfl
  have cz := box_cell hz 0 _ rfl
  have fx := box_froz hx 0
  have fy := box_froz hy 0
  have fz := box_froz hz 0
  have lx := box_lt hx
  have ly := box_lt hy
  have lz := box_lt hz
  have nxy : ¬ x = y := ne_of_ty hx hy (by decide)
  have nxz : ¬ x = z := ne_of_ty hx hz (by decide)
  have nyz : ¬ y = z := ne_of_ty hy hz (by decide)
  have Hx := Lib.hid hx
  have Hy := Lib.hid hy
  have Hz := Lib.hid hz
  clear hx hy hz hu
  simp only [Array.replicate_succ, Array.replicate_zero, List.push_toArray, List.nil_append, List.cons_append, List.setIfInBounds_toArray, List.set_cons_succ, List.set_cons_zero, List.append_toArray]
  go_wp2
  go_region
  refine ⟨rfl, _, rfl, .tuple #[], results_none rfl _ _ _, rfl, rfl, Lib.hid ⟨?_, ?_, ?_, ?_⟩⟩
  · exact ((((((chg_set w x 0 (.slice none 0 0)).mono (T := fun j => j = x ∨ j = y ∨ j = z) (fun _ _ e => .inl e)).trans (chg_set _ y 0 (.int .i64 k)) (fun _ _ e => .inr (.inl e))).trans (chg_set _ z 0 (.int .i64 at_)) (fun _ _ e => .inr (.inr e))).alloc _).drew)
  · show (World.alloc _ _).heap[x]? = _
    rw [Below.heap_alloc _ _ _ (by simpa [World.setCell] using lx), heap_setCell_other _ _ _ _ nxz, heap_setCell_other _ _ _ _ nxy, heap_setCell_same _ _ _ _ _ _ Hx.out]; simp
  · show (World.alloc _ _).heap[y]? = _
    rw [Below.heap_alloc _ _ _ (by simpa [World.setCell] using ly), heap_setCell_other _ _ _ _ nyz, heap_setCell_same _ _ _ _ _ _ ((heap_setCell_other _ _ _ _ (Ne.symm nxy)).trans Hy.out)]; simp
  · show (World.alloc _ _).heap[z]? = _
    rw [Below.heap_alloc _ _ _ (by simpa [World.setCell] using lz), heap_setCell_same _ _ _ _ _ _ ((heap_setCell_other _ _ _ _ (Ne.symm nyz)).trans ((heap_setCell_other _ _ _ _ (Ne.symm nxz)).trans Hz.out))]; simp
set_option maxRecDepth 100000 in
set_option maxHeartbeats 1000000 in
theorem idle_cond (x y z : Addr) (w : World) :
    CallsD Tryz.prog 13 #[.pointer (some x), .pointer (some y), .pointer (some z)] .returning w fun e u' w' => e = .returned (.tuple #[]) ∧ u' = .returning ∧ Hid (Kept w w') := by
  refine callsD_of_wpS Tryz.func13 rfl fun c₀ cs hu => ?_
  apply wpS_seq
  apply wpS_region
  simp [wpOpsS, go_sem, recoverD, hu, Tryz.ntmps13, Exit.thenS, ta_nil]
  refine wpS_of_wp ?_
  simp only [Array.replicate_succ, Array.replicate_zero, List.push_toArray, List.nil_append, List.cons_append, List.setIfInBounds_toArray, List.set_cons_succ, List.set_cons_zero, List.append_toArray]
  go_wp2
  refine ⟨rfl, .returning, ?_, .tuple #[], results_none rfl _ _ _, rfl, rfl, Lib.hid ((Kept.refl w).alloc _)⟩
  cases c₀
  simp_all
end Go.Proofs.YtnnpdilngmciaaaGreatDoor.Prs
