/-
  A graph that is made row by row, out of the rows of another (layer 12's ShapeDominates).
-/
import Derived.Test.YtpkebokfbigggaaDoorShpY
import Derived.Test.YtpkebokfbigggaaDoorShpR
namespace Go.Proofs.YtpkebokfbigggaaDoor.Shp
open Go.RowKit

/-- The first n rows of g but that of one node, in a row of one's own. -/
structure CutAt (w W : World) (vh : Value) (g : Gr) (d n : Nat) (us : List Value) : Prop where
  kept : Kept w W
  len : us.length = n
  own : W.ownsRow w.heap.size 23 1 vh n us
  rows : ∀ c (h : c < us.length), ListAt vi w us[c] (row (cutG g d) c)
theorem cut_start (w W : World) (hk : Kept w W) (g : Gr) (d : Nat) : CutAt w W (.slice none 0 0) g d 0 [] := ⟨hk, rfl, World.ownsRow_nil _ _ _ _, fun c h => absurd h (by simp)⟩
theorem CutAt.snoc {w W W2 : World} {vh vh' u : Value} {g : Gr} {d n : Nat} {us : List Value} {o : Obj} (h : CutAt w W vh g d n us) (hg : (W.alloc o).grownBy W2 vh.ownBlock) (ho : W2.ownsRow w.heap.size 23 1 vh' (n + 1) (us ++ [u])) (hr : ListAt vi w u (row (cutG g d) n)) : CutAt w W2 vh' g d (n + 1) (us ++ [u]) := by
  have ka := h.kept.alloc o
  refine ⟨Below.trans ka (Kept.chg ka.size (chg_grown hg) fun i hi => (own_ty h.own hi).1), by simp [h.len], ho, fun c hc => ?_⟩
  by_cases e : c < us.length
  · rw [List.getElem_append_left e]; exact h.rows c e
  · have hc' : c = us.length := by rw [List.length_append] at hc; simp at hc; omega
    subst hc'
    have := h.len
    subst this
    simp only [List.getElem_concat_length]
    exact hr
theorem CutAt.graph {w W : World} {vh : Value} {g : Gr} {d : Nat} {us : List Value} (h : CutAt w W vh g d g.length us) (hw : ∀ l ∈ g, Wf l) : GraphAt W vh (cutG g d) := by
  refine ⟨fun l hl => ?_, us, own_list2 (f := id) (by rw [List.map_id]; exact h.own) h.len, by rw [h.len, cutG_len], fun j hj hj' => ?_⟩
  · unfold cutG at hl
    rw [List.mem_map] at hl
    obtain ⟨i, hi, rfl⟩ := hl
    split
    · intro n hn; cases hn
    · have := List.mem_range.1 hi
      unfold row
      rw [List.getD_eq_getElem?_getD, List.getElem?_eq_getElem this]
      exact hw _ (List.getElem_mem this)
  · have := (h.rows j hj').kept h.kept
    unfold row at this
    rw [List.getD_eq_getElem?_getD, List.getElem?_eq_getElem hj] at this
    exact this

/-- A graph that is made row by row, each row new. -/
structure MadeAt (w W : World) (vg : Value) (G : Gr) (n : Nat) (us : List Value) : Prop where
  kept : Kept w W
  len : us.length = n
  own : W.ownsRow w.heap.size 23 1 vg n us
  rows : ∀ c (h : c < us.length), W.ownsRow w.heap.size 3 1 us[c] (row G c).length ((row G c).map vi)
theorem made_start (w : World) (G : Gr) : MadeAt w w (.slice none 0 0) G 0 [] := ⟨Kept.refl w, rfl, World.ownsRow_nil _ _ _ _, fun c h => absurd h (by simp)⟩
theorem MadeAt.snoc {w W W2 : World} {vg vg' : Value} {G : Gr} {n : Nat} {us : List Value} {o2 : Obj} {l : List Int} {cs : Array Value} (h : MadeAt w W vg G n us) (hl : row G n = l) (hl2 : l.length ≤ 100) (hcs : cs = (l.map vi).toArray)
    (hg : ((W.alloc (.cells cs 3)).alloc o2).grownBy W2 vg.ownBlock) (ho : W2.ownsRow w.heap.size 23 1 vg' (n + 1) (us ++ [.slice (some ⟨W.heap.size, 0, none⟩) l.length l.length])) :
    MadeAt w W2 vg' G (n + 1) (us ++ [.slice (some ⟨W.heap.size, 0, none⟩) l.length l.length]) := by
  subst hcs
  have k1 : Kept W (W.alloc (.cells (l.map vi).toArray 3)) := (Kept.refl W).alloc _
  have k2 : Kept W ((W.alloc (.cells (l.map vi).toArray 3)).alloc o2) := k1.alloc o2
  have hC := chg_grown hg
  have hws := h.kept.size
  have keep : ∀ {B m : Nat} {u : Value} {xs : List Value}, ((W.alloc (.cells (l.map vi).toArray 3)).alloc o2).ownsRow B 3 1 u m xs → W2.ownsRow B 3 1 u m xs := by
    intro B m u xs hr
    refine own_chg hr hC fun k hk q => ?_
    obtain ⟨_, _, c1, hc1⟩ := own_ty hr hk
    obtain ⟨_, _, c2, hc2⟩ := own_ty (own_kept h.own k2) q
    exact ne_of_ty hc1 hc2 (by decide) rfl
  refine ⟨Below.trans (h.kept.trans k2) (Kept.chg (by have := k2.size; omega) hC fun i hi => (own_ty h.own hi).1), by simp [h.len], ho, fun c hc => ?_⟩
  by_cases e : c < us.length
  · rw [List.getElem_append_left e]; exact keep (own_kept (h.rows c e) k2)
  · have hc' : c = us.length := by rw [List.length_append] at hc; simp at hc; omega
    subst hc'
    have := h.len
    subst this
    simp only [List.getElem_concat_length]
    rw [hl]
    refine keep (World.ownsRow.alloc ⟨by simp, .inr ⟨W.heap.size, l.length, (l.map vi).toArray, rfl, hws, heap_alloc_new W _, Nat.le_refl _, by simp [maxLen]; omega, by simp, ?_⟩⟩ o2)
    rw [List.take_of_length_le (by simp)]
theorem MadeAt.keep {w W W' : World} {vg : Value} {G : Gr} {n : Nat} {us : List Value} (h : MadeAt w W vg G n us) (hk : Kept W W') : MadeAt w W' vg G n us :=
  ⟨h.kept.trans hk, h.len, own_kept h.own hk, fun c hc => own_kept (h.rows c hc) hk⟩
theorem MadeAt.graph {w W : World} {vg : Value} {G : Gr} {n : Nat} {us : List Value} (h : MadeAt w W vg G n us) (hn : n = G.length) (hw : ∀ l ∈ G, Wf l) : GraphAt W vg G := by
  subst hn
  refine ⟨hw, us, own_list2 (f := id) (by rw [List.map_id]; exact h.own) h.len, h.len, fun j hj hj' => ?_⟩
  have := h.rows j hj'
  have hr : row G j = G[j] := by unfold row; rw [List.getD_eq_getElem?_getD, List.getElem?_eq_getElem hj]; rfl
  rw [hr] at this
  exact own_list this
theorem ring_wf {k x y : Nat} (hk : k ≤ 100) (hk0 : 0 < k) (hx : x < k) (hy : y < k) : ∀ l ∈ ringG k x y, Wf l := by
  have small : ∀ n : Nat, n < k → (Lit.int .i64 (n : Int)).wf = true := fun n hn => WalkArith.wf_i64 (by omega)
  intro l hl
  unfold ringG at hl
  rcases List.mem_append.1 hl with h | h
  · rw [List.mem_map] at h
    obtain ⟨i, _, rfl⟩ := h
    intro n hn
    rw [List.mem_singleton] at hn
    subst hn
    exact small _ (Nat.mod_lt _ hk0)
  · rw [List.mem_singleton] at h
    subst h
    intro n hn
    simp only [List.mem_cons, List.not_mem_nil, or_false] at hn
    rcases hn with e | e <;> subst e
    · exact small _ hx
    · exact small _ hy
end Go.Proofs.YtpkebokfbigggaaDoor.Shp
