/-
  Where the nodes stand in an order (layer 12's ShapeOrders).
-/
import Derived.Test.YtpkebokfbigggaaDoorShpT
namespace Go.Proofs.YtpkebokfbigggaaDoor.Shp
open Go.RowKit
open Classical

theorem addr_zero (a : Addr) : a.add 0 = a := by unfold Addr.add; split <;> simp_all
def atF (n : Nat) (dl : List Nat) (i : Nat) : List Int := (List.range n).map fun x => if x ∈ dl.take i then ((dl.idxOf x : Nat) : Int) else -1
variable {n i : Nat} {dl : List Nat}
theorem atF_len : (atF n dl i).length = n := by simp [atF]
theorem atF_at {x : Nat} (h : x < (atF n dl i).length) : (atF n dl i)[x] = if x ∈ dl.take i then ((dl.idxOf x : Nat) : Int) else -1 := by simp [atF]
theorem atF_zero : minF n n = atF n dl 0 := by
  unfold minF atF
  refine List.map_congr_left fun c hc => ?_
  rw [if_pos (List.mem_range.1 hc)]; simp
theorem take_nodup {l : List Nat} (hn : l.Nodup) (hi : i < l.length) : l[i] ∉ l.take i := by
  intro h
  obtain ⟨j, hj, e⟩ := List.getElem_of_mem h
  rw [List.getElem_take] at e
  have hj' : j < l.length := by rw [List.length_take] at hj; omega
  have := (List.getElem_inj (h₀ := hj') (h₁ := hi) hn).1 e
  rw [List.length_take] at hj
  omega
theorem atF_new (hn : dl.Nodup) (hi : i < dl.length) (h : dl[i] < (atF n dl i).length) : (atF n dl i)[dl[i]] = -1 := by
  rw [atF_at, if_neg (take_nodup hn hi)]
theorem atF_set (hn : dl.Nodup) (hi : i < dl.length) : (atF n dl i).set dl[i] (i : Int) = atF n dl (i + 1) := by
  apply List.ext_getElem
  · simp [atF]
  · intro c h1 h2
    rw [List.getElem_set]
    simp only [atF, List.getElem_map, List.getElem_range]
    rw [List.take_succ_eq_append_getElem hi]
    by_cases e : dl[i] = c
    · subst e
      rw [if_pos rfl, if_pos (List.mem_append.2 (.inr (List.mem_singleton.2 rfl))), idxOf_at hn hi]
    · rw [if_neg e]
      have : (c ∈ dl.take i ++ [dl[i]]) ↔ c ∈ dl.take i := by
        rw [List.mem_append, List.mem_singleton]
        exact ⟨fun h => h.resolve_right fun q => e q.symm, .inl⟩
      by_cases hc : c ∈ dl.take i
      · rw [if_pos hc, if_pos (this.2 hc)]
      · rw [if_neg hc, if_neg (fun h => hc (this.1 h))]
theorem atF_end {x : Nat} (h : x < (atF n dl dl.length).length) : (atF n dl dl.length)[x] = if x ∈ dl then ((dl.idxOf x : Nat) : Int) else -1 := by
  rw [atF_at, List.take_of_length_le (Nat.le_refl _)]
theorem mem_take {l : List Int} {b : Int} (hi : i < l.length) : decide (b ∈ l.take (i + 1)) = (decide (b ∈ l.take i) || decide (l[i] = b)) := by
  rw [List.take_succ_eq_append_getElem hi, Bool.eq_iff_iff, Bool.or_eq_true, decide_eq_true_iff, decide_eq_true_iff, decide_eq_true_iff, List.mem_append, List.mem_singleton]
  exact ⟨fun h => h.imp_right Eq.symm, fun h => h.imp_right Eq.symm⟩
end Go.Proofs.YtpkebokfbigggaaDoor.Shp
