/-
  A graph that came in: what the walk is told of it.
-/
import Derived.Test.YtpkebokfbigggaaDoorShpA
import Derived.Deep.Matrix
namespace Go.Proofs.YtpkebokfbigggaaDoor.Shp
open Go.RowKit Go.ChangeShapes Go.WideShapes

theorem list_some {α : Type} {f : α → Value} {w : World} {x : Addr} {l : List α} {n c : Nat} (hn : n = l.length) (h1 : n ≤ c) (h2 : c ≤ maxLen) (h : ∀ j (hj : j < l.length), w.cell? (x.add j) = some (f l[j])) : ListAt f w (.slice (some x) n c) l := by
  subst hn
  exact .inr ⟨x, c, rfl, h1, h2, fun j hj => ⟨World.block_lt_of_cell? w _ (h j hj), h j hj⟩⟩
theorem open_graph {H : Type} {enc : TypeId × Value → H} {P : Program} {w : World} {base : Nat} {held : Bool} {t e q : TypeId} {fuel : Nat} {a : Option Addr} {len cap : Nat} {x : DataW H × List MemPlace}
    (ht : P.underlying t = some (.slice e)) (he : P.underlying e = some (.slice q)) (hq : P.underlying q = some (.int .i64)) (ce : P.cellsOf e = 1) (cq : P.cellsOf q = 1)
    (h : DataW.trod enc P w base (fun _ => true) held fuel t [.slice a len cap] = some x) : ∃ g : Gr, g.length = len ∧ GraphAt w (.slice a len cap) g := by
  rcases Go.Deep.open_int_rows ht he hq ce cq h with ⟨hcs, _⟩ | ⟨a', len', cap', A, L, C, Z, hcs, _, hl, hm, _, hx⟩
  · simp at hcs
    obtain ⟨rfl, rfl, rfl⟩ := hcs
    exact ⟨[], rfl, ⟨(fun l hl => absurd hl (by simp)), [], .inl ⟨rfl, rfl⟩, rfl, fun j hj => absurd hj (by simp)⟩⟩
  · simp at hcs
    obtain ⟨rfl, rfl, rfl⟩ := hcs
    refine ⟨(List.range len).map fun r => (Z r).take (L r), by simp, ?_, (List.range len).map fun r => .slice (A r) (L r) (C r), ?_, by simp, ?_⟩
    · intro l hl'
      rw [List.mem_map] at hl'
      obtain ⟨r, hr, rfl⟩ := hl'
      have := List.mem_range.1 hr
      obtain ⟨_, _, _, _, r4, _⟩ := hx r (by omega)
      exact fun n hn => r4 n (List.mem_of_mem_take hn)
    · refine list_some (by simp) hl hm fun j hj => ?_
      have hj' : j < len := by simpa using hj
      rw [(hx j (by omega)).1]
      simp
    · intro j hj hj'
      have hjl : j < len := by simpa using hj
      obtain ⟨_, r1, r2, r3, _, r5, r6⟩ := hx j (by omega)
      simp only [List.getElem_map, List.getElem_range]
      have hlen : ((Z j).take (L j)).length = L j := by rw [List.length_take]; omega
      cases hA : A j with
      | none =>
        have hc := r5 hA
        have h0 : L j = 0 := by omega
        refine .inl ⟨by rw [h0, hc], ?_⟩
        rw [h0]; rfl
      | some b =>
        refine list_some hlen.symm r1 r2 fun i hi => ?_
        rw [hlen] at hi
        rw [(r6 b hA).2 i (by omega), List.getElem_take]
        congr 1
        rw [List.getD_eq_getElem?_getD, List.getElem?_eq_getElem (by omega)]
        rfl
theorem ints_of {w : World} {a : Option Addr} {len cap : Nat} {z : List Int} (h : (a = none ∧ len = 0 ∧ cap = 0 ∧ z = []) ∨ ∃ x, a = some x ∧ len ≤ cap ∧ cap ≤ maxLen ∧ z.length = cap ∧ (∀ i, i < z.length → w.cell? (x.add i) = some (.int .i64 (z.getD i 0))) ∧ ∀ n ∈ z, (Lit.int .i64 n).wf = true) :
    (z.take len).length = len ∧ ListAt vi w (.slice a len cap) (z.take len) := by
  rcases h with ⟨rfl, rfl, rfl, rfl⟩ | ⟨x, rfl, h1, h2, h3, h4, h5⟩
  · exact ⟨rfl, .inl ⟨rfl, rfl⟩⟩
  · have hlen : (z.take len).length = len := by rw [List.length_take]; omega
    refine ⟨hlen, list_some hlen.symm h1 h2 fun i hi => ?_⟩
    rw [hlen] at hi
    rw [h4 i (by omega), List.getElem_take]
    unfold vi
    congr 2
    rw [List.getD_eq_getElem?_getD, List.getElem?_eq_getElem (by omega)]
    rfl
end Go.Proofs.YtpkebokfbigggaaDoor.Shp
