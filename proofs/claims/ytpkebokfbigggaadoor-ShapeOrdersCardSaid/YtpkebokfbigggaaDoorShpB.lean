/-
  The document's Reach and without (package calliperref10): what is reached.
-/
import Derived.Test.YtpkebokfbigggaaDoorShpA
import Derived.Test.YtpkebokfbigggaaDoorShpD
namespace Go.Proofs.YtpkebokfbigggaaDoor.Shp
open Go.RowKit

theorem int_inf : (Tryd.prog.info? 3).map (fun i => (i.zero, i.size, i.bytes)) = some (some (.int .i64 0), 1, 8) := by kernel_rfl
theorem bool_inf : (Tryd.prog.info? 4).map (fun i => (i.zero, i.size, i.bytes)) = some (some (.bool false), 1, 1) := by kernel_rfl
theorem made_bools (n : Nat) (h : n ≤ 100000) (w : World) : (Instr.makeSlice 27 (.int .i64 (n : Int)) (.int .i64 (n : Int))).run Tryd.prog w = .ok (.slice (some ⟨w.heap.size, 0, none⟩) n n) (w.alloc (.cells (madeCells #[.bool false] n) 4)) :=
  run_make_row' (P := Tryd.prog) 27 4 (.bool false) 1 Tryd.underlying27 bool_inf rfl .i64 .i64 n (by omega) (by omega) w
theorem made_ints (n : Nat) (h : n ≤ 100000) (w : World) : (Instr.makeSlice 23 (.int .i64 (n : Int)) (.int .i64 (n : Int))).run Tryd.prog w = .ok (.slice (some ⟨w.heap.size, 0, none⟩) n n) (w.alloc (.cells (madeCells #[.int .i64 0] n) 3)) :=
  run_make_row' (P := Tryd.prog) 23 3 (.int .i64 0) 8 Tryd.underlying23 int_inf rfl .i64 .i64 n (by omega) (by omega) w
theorem made_list (z : Value) (n : Nat) : madeCells #[z] n = (List.replicate n z).toArray := by
  apply Array.ext
  · simp [madeCells]
  · intro i h1 h2
    simp [madeCells, Nat.mod_one]
/-- A row that was just made. -/
theorem own_made {α : Type} {f : α → Value} (w : World) (a : α) (n : Nat) (h : n ≤ 100000) (e : TypeId) : (w.alloc (.cells (madeCells #[f a] n) e)).ownsRow w.heap.size e 1 (.slice (some ⟨w.heap.size, 0, none⟩) n n) n ((List.replicate n a).map f) := by
  refine ⟨by simp, .inr ⟨w.heap.size, n, _, rfl, Nat.le_refl _, heap_alloc_new w _, Nat.le_refl _, by simp [maxLen]; omega, by simp [madeCells], ?_⟩⟩
  rw [made_list]; simp

section
variable {w W : World} {v : Value} {g : Gr}
theorem fits_yes (w : World) (a : Option Addr) (n c : Nat) (f : Int) (hn : n ≤ 2000) (h0 : 0 ≤ f) (h1 : f < n) : Calls Tryd.prog 26 #[.slice a n c, .int .i64 f] w fun e w' => e = .returned (.bool true) ∧ w = w' := by
  go_enter Tryd.func26, Tryd.ntmps26
  go_wp2
  go_ret
  exact ⟨rfl, rfl⟩
theorem fits_no (w : World) (a : Option Addr) (n c : Nat) (f : Int) (hn : n ≤ 2000) (h : f < 0 ∨ n ≤ f) : Calls Tryd.prog 26 #[.slice a n c, .int .i64 f] w fun e w' => e = .returned (.bool false) ∧ w = w' := by
  rcases h with h | h
  · go_enter Tryd.func26, Tryd.ntmps26
    go_wp2
    go_ret
    exact ⟨rfl, rfl⟩
  · have h0 : 0 ≤ f := by omega
    have hd : decide (f < (n : Int)) = false := decide_eq_false (by omega)
    go_enter Tryd.func26, Tryd.ntmps26
    go_wp2
    go_ret
    exact ⟨rfl, rfl⟩

/-- A search under way, in memory. -/
structure DfsAt (w W : World) (vo vt : Value) (g : Gr) (f : Nat) (no : Nat → Prop) (out : List Bool) (todo : List Nat) (x k : Nat) : Prop where
  kept : Kept w W
  own : W.ownsRow w.heap.size 4 1 vo g.length (out.map vb)
  stk : W.ownsRow w.heap.size 3 1 vt todo.length (todo.map vn)
  dfs : Dfs g f no out todo x k
variable {vo vt : Value} {f x k : Nat} {no : Nat → Prop} {out : List Bool} {todo : List Nat}
theorem DfsAt.with {x' k' : Nat} (h : DfsAt w W vo vt g f no out todo x k) (d : Dfs g f no out todo x' k') : DfsAt w W vo vt g f no out todo x' k' := ⟨h.kept, h.own, h.stk, d⟩
theorem dfs_made (w : World) (g : Gr) (hg : g.length ≤ 2000) (hf : f < g.length) (hn : ¬ no f) :
    DfsAt w ((w.alloc (.cells ((madeCells #[.bool false] g.length).setIfInBounds f (.bool true)) 4)).alloc (.cells #[.int .i64 (f : Int)] 3)) (.slice (some ⟨w.heap.size, 0, none⟩) g.length g.length) (.slice (some ⟨w.heap.size + 1, 0, none⟩) 1 1) g f no ((List.replicate g.length false).set f true) [f] g.length 0 := by
  have ha : (madeCells #[.bool false] g.length).setIfInBounds f (.bool true) = (((List.replicate g.length false).set f true).map vb).toArray := by
    apply Array.toList_inj.1
    rw [made_list]; simp [vb, List.map_set]
  refine ⟨((Kept.refl w).alloc _).alloc _, ?_, ?_, dfs_start hf hn⟩
  · rw [ha]
    refine World.ownsRow.alloc ⟨by simp, .inr ⟨w.heap.size, g.length, _, rfl, Nat.le_refl _, heap_alloc_new w _, Nat.le_refl _, by simp [maxLen]; omega, by simp, ?_⟩⟩ _
    rw [List.take_of_length_le (by simp)]
  · refine ⟨rfl, .inr ⟨w.heap.size + 1, 1, #[.int .i64 (f : Int)], rfl, by omega, ?_, by simp, by simp [maxLen], by simp, by simp [vn]⟩⟩
    have := heap_alloc_new (w.alloc (.cells ((madeCells #[.bool false] g.length).setIfInBounds f (.bool true)) 4)) (.cells #[.int .i64 (f : Int)] 3)
    simpa using this
theorem DfsAt.pop {a : Option Addr} {n c y : Nat} (h : DfsAt w W vo (.slice a n c) g f no out (todo ++ [y]) g.length k) : DfsAt w W vo (.slice a todo.length c) g f no out todo y 0 := by
  refine ⟨h.kept, h.own, ?_, h.dfs.pop⟩
  have h2 := h.stk
  obtain ⟨a', c', e⟩ := own_form h2
  injection e with e1 e2 e3
  subst e1 e2 e3
  rw [List.map_append] at h2
  simp only [List.length_append, List.length_cons, List.length_nil, Nat.zero_add] at h2
  exact own_pop h2
/-- A node is marked, and put on the stack. -/
theorem DfsAt.push {go : Nat} {no' co : Nat} {o : Obj} {W2 : World} {vt' : Value} (h : DfsAt w W (.slice (some ⟨go, 0, none⟩) no' co) vt g f no out todo x k) (hx : x < g.length) {b : Nat} (hb : (row g x)[k]? = some (b : Int)) (hl : b < g.length) (hn : ¬ no b)
    (hg : ((W.setCell ⟨go, b, none⟩ (.bool true)).alloc o).grownBy W2 vt.ownBlock) (ho : W2.ownsRow w.heap.size 3 1 vt' (todo.length + 1) (todo.map vn ++ [.int .i64 (b : Int)])) :
    DfsAt w W2 (.slice (some ⟨go, 0, none⟩) no' co) vt' g f no (out.set b true) (todo ++ [b]) x (k + 1) := by
  obtain ⟨g1, g2, gc, g3⟩ := own_ty h.own (g := go) rfl
  have k1 : Kept w (W.setCell ⟨go, b, none⟩ (.bool true)) := h.kept.setCell g1 _
  refine ⟨?_, ?_, ?_, h.dfs.push hx hb hl hn⟩
  · refine Below.trans (k1.alloc o) (Kept.chg (by have := (k1.alloc o).size; omega) (chg_grown hg) fun i hi => ?_)
    exact (own_ty h.stk hi).1
  · rw [List.map_set]
    refine own_chg ((own_set h.own (.bool true)).alloc o) (chg_grown hg) fun q hq hi => ?_
    have : go = q := by simpa [Value.ownBlock] using hq
    subst this
    obtain ⟨_, _, c, hc⟩ := own_ty h.stk hi
    exact ne_of_ty g3 hc (by decide) rfl
  · rw [List.map_append, List.length_append]; exact ho
/-- The cells of the marks. -/
theorem DfsAt.mark {a : Option Addr} {n c y : Nat} (h : DfsAt w W (.slice a n c) vt g f no out todo x k) (hy : y < g.length) :
    ∃ go, a = some ⟨go, 0, none⟩ ∧ n = g.length ∧ n ≤ c ∧ c ≤ maxLen ∧ w.heap.size ≤ go ∧ W.cell? ⟨go, y, none⟩ = some (.bool (out.getD y false)) ∧ W.frozen? ⟨go, y, none⟩ = false := by
  have hl := h.dfs.len
  obtain ⟨a', c', e⟩ := own_form h.own
  injection e with e1 e2 e3
  subst e1 e2 e3
  obtain ⟨go, q1, q2, q3, q4, q5, q6⟩ := own_at h.own (j := y) (by simp; omega)
  refine ⟨go, q1, rfl, q2, q3, q4, ?_, q6⟩
  rw [q5]
  simp [vb, List.getD_eq_getElem?_getD, List.getElem?_eq_getElem (show y < out.length by omega)]
theorem DfsAt.top {a : Option Addr} {n c y : Nat} (h : DfsAt w W vo (.slice a n c) g f no out (todo ++ [y]) x k) :
    ∃ gs, a = some ⟨gs, 0, none⟩ ∧ n = todo.length + 1 ∧ n ≤ c ∧ c ≤ maxLen ∧ W.cell? ⟨gs, todo.length, none⟩ = some (.int .i64 (y : Int)) := by
  obtain ⟨a', c', e⟩ := own_form h.stk
  injection e with e1 e2 e3
  subst e1 e2 e3
  obtain ⟨gs, q1, q2, q3, q4, q5, q6⟩ := own_at h.stk (j := todo.length) (by simp)
  refine ⟨gs, q1, by simp, q2, q3, ?_⟩
  rw [q5]; simp [vn]
theorem DfsAt.of_form (h : DfsAt w W vo vt g f no out todo x k) : (∃ a c, vo = .slice a g.length c) ∧ ∃ a c, vt = .slice a todo.length c := ⟨own_form h.own, own_form h.stk⟩
end
end Go.Proofs.YtpkebokfbigggaaDoor.Shp
