/-
  Memory of stage 12: 'nothing but these blocks has changed' (Chg), rows of one cell an element that a call made itself (read, set, popped), lists and graphs that are only read (ListAt, GraphAt).
-/
import Derived.Test.YtpkebokfbigggaaDoorBase
import Derived.Test.YtpkebokfbigggaaDoorRows
import Derived.RegionTactic
import Derived.ChangeAlike
import Derived.Deep.QuietTactic
import Derived.BigQuiet
import Derived.WalkLawsBesides
import Derived.WalkKit
import Derived.WalkSpells
import Derived.IntWalk
import Derived.Deep.AppendLies
import Derived.Deep.RegionLaw
import Derived.Deep.RegionHeld3
import Derived.Deep.LoopGhost
import Derived.Deep.CutRange
import Derived.Deep.CutBlock
import Derived.Deep.OwnRows
import Derived.OwnWalk
import Derived.Lib.Hide
import Derived.Test.YtpkebokfbigggaaDoorShpP
namespace Go.Proofs.YtpkebokfbigggaaDoor.Shp
open Go.RowKit

/-- Nothing but the blocks of S has changed; no block has gone. -/
structure Chg (S : Nat → Prop) (w w' : World) : Prop where
  os : w'.os = w.os
  tape : w'.tape = w.tape
  output : w'.output = w.output
  size : w.heap.size ≤ w'.heap.size
  block : ∀ k, k < w.heap.size → ¬ S k → w'.heap[k]? = w.heap[k]?
theorem Chg.refl (S : Nat → Prop) (w : World) : Chg S w w := ⟨rfl, rfl, rfl, Nat.le_refl _, fun _ _ _ => rfl⟩
theorem Chg.trans {S T : Nat → Prop} {a b c : World} (h : Chg S a b) (k : Chg T b c) (hs : ∀ i, i < a.heap.size → T i → S i) : Chg S a c :=
  ⟨k.os.trans h.os, k.tape.trans h.tape, k.output.trans h.output, Nat.le_trans h.size k.size, fun i hi hn => (k.block i (Nat.lt_of_lt_of_le hi h.size) (fun ht => hn (hs i hi ht))).trans (h.block i hi hn)⟩
theorem Chg.then {S : Nat → Prop} {a b c : World} (h : Chg S a b) (k : Chg S b c) : Chg S a c := h.trans k fun _ _ h => h
theorem Chg.of_kept {S : Nat → Prop} {a b : World} (h : Kept a b) : Chg S a b := ⟨h.os, h.tape, h.output, h.size, fun i hi _ => h.block i hi⟩
theorem Chg.kept {S : Nat → Prop} {a b : World} (h : Chg S a b) (hs : ∀ i, i < a.heap.size → ¬ S i) : Kept a b := ⟨h.os, h.tape, h.output, h.size, fun i hi => h.block i hi (hs i hi)⟩
theorem Chg.heap {S : Nat → Prop} {a b : World} (h : Chg S a b) {k : Nat} {o : Obj} (hk : a.heap[k]? = some o) (hn : ¬ S k) : b.heap[k]? = some o :=
  (h.block k (Array.getElem?_eq_some_iff.1 hk).1 hn).trans hk
theorem chg_set (w : World) (r o : Nat) (u : Value) : Chg (fun k => k = r) w (w.setCell ⟨r, o, none⟩ u) :=
  ⟨rfl, rfl, rfl, by simp [World.setCell], fun k _ hk => Below.heap_setCell _ _ _ _ hk⟩
theorem chg_grown {w w' : World} {row : Option Nat} (h : w.grownBy w' row) : Chg (fun k => row = some k) w w' := ⟨h.os, h.tape, h.output, h.size, fun k hk hn => h.block k hk fun e => hn e.symm⟩
theorem ne_of_ty {w : World} {a b : Nat} {c c' : Array Value} {t t' : TypeId} {z z' : Nat × Nat} (h : w.heap[a]? = some (.cells c t z)) (h' : w.heap[b]? = some (.cells c' t' z')) (hn : t ≠ t') : a ≠ b := by
  intro e; subst e; rw [h] at h'; injection h' with h'; injection h' with _ h'; exact hn h'
theorem bx_cell {w : World} {b : Nat} {cs : Array Value} {t : TypeId} (h : w.heap[b]? = some (.cells cs t (0, 0))) (o : Nat) (u : Value) (hu : cs[o]? = some u) : w.cell? ⟨b, o, none⟩ = some u := by simpa [World.cell?, h] using hu
theorem bx_froz {w : World} {b : Nat} {cs : Array Value} {t : TypeId} (h : w.heap[b]? = some (.cells cs t (0, 0))) (o : Nat) : w.frozen? ⟨b, o, none⟩ = false := by simp [World.frozen?, h]
theorem Kept.chg {w w' : World} {S : Nat → Prop} {n : Nat} (hk : n ≤ w.heap.size) (h : Chg S w w') (hs : ∀ i, S i → n ≤ i) : Below n w w' :=
  ⟨h.os, h.tape, h.output, h.size, fun i hi => h.block i (Nat.lt_of_lt_of_le hi hk) (fun k => by have := hs i k; omega)⟩

section
variable {w w' : World} {B n : Nat} {e : TypeId} {v : Value} {xs : List Value}
theorem own_form (h : w.ownsRow B e 1 v n xs) : ∃ a c, v = .slice a n c := by
  rcases h.2 with ⟨h1, h2⟩ | ⟨g, c, cur, h1, _⟩
  · exact ⟨none, 0, by rw [h1, h2]⟩
  · exact ⟨_, _, h1⟩
theorem own_len (h : w.ownsRow B e 1 v n xs) : xs.length = n := by have := h.1; omega
/-- A place of it. -/
theorem own_at {a : Option Addr} {m c j : Nat} (h : w.ownsRow B e 1 (.slice a m c) n xs) (hj : j < xs.length) :
    ∃ g, a = some ⟨g, 0, none⟩ ∧ n ≤ c ∧ c ≤ maxLen ∧ B ≤ g ∧ w.cell? ⟨g, j, none⟩ = some xs[j] ∧ w.frozen? ⟨g, j, none⟩ = false := by
  have hl := own_len h
  rcases h.2 with ⟨h1, h2⟩ | ⟨g, c', cur, h1, h2, h3, h4, h5, h6, h7⟩
  · omega
  · injection h1 with e1 e2 e3
    subst e1 e2 e3
    refine ⟨g, rfl, h4, h5, h2, bx_cell h3 _ _ ?_, bx_froz h3 _⟩
    have : cur.toList[j]? = xs[j]? := by
      rw [← h7, List.getElem?_take, if_pos (by omega)]
    rw [← Array.getElem?_toList, this, List.getElem?_eq_getElem hj]
theorem own_ty (h : w.ownsRow B e 1 v n xs) {g : Nat} (hg : v.ownBlock = some g) : B ≤ g ∧ g < w.heap.size ∧ ∃ c, w.heap[g]? = some (.cells c e (0, 0)) := by
  rcases h.2 with ⟨rfl, _⟩ | ⟨g', cap, c, rfl, h0, h1, _⟩
  · simp [Value.ownBlock] at hg
  · simp [Value.ownBlock] at hg; subst hg; exact ⟨h0, (Array.getElem?_eq_some_iff.1 h1).1, c, h1⟩
theorem own_chg {S : Nat → Prop} (h : w.ownsRow B e 1 v n xs) (hc : Chg S w w') (hn : ∀ g, v.ownBlock = some g → ¬ S g) : w'.ownsRow B e 1 v n xs := by
  refine ⟨h.1, ?_⟩
  rcases h.2 with h2 | ⟨g, cap, c, rfl, h1, h2, h3⟩
  · exact .inl h2
  · exact .inr ⟨g, cap, c, rfl, h1, hc.heap h2 (hn g rfl), h3⟩
theorem own_kept (h : w.ownsRow B e 1 v n xs) (hk : Kept w w') : w'.ownsRow B e 1 v n xs := own_chg (S := fun _ => False) h (Chg.of_kept hk) fun _ _ => id
theorem own_low {C : Nat} (h : w.ownsRow B e 1 v n xs) (hc : C ≤ B) : w.ownsRow C e 1 v n xs := by
  refine ⟨h.1, ?_⟩
  rcases h.2 with h2 | ⟨g, cap, c, rfl, h1, h2⟩
  · exact .inl h2
  · exact .inr ⟨g, cap, c, rfl, by omega, h2⟩
/-- A place of it is set. -/
theorem own_set {g m c j : Nat} (h : w.ownsRow B e 1 (.slice (some ⟨g, 0, none⟩) m c) n xs) (u : Value) : (w.setCell ⟨g, j, none⟩ u).ownsRow B e 1 (.slice (some ⟨g, 0, none⟩) m c) n (xs.set j u) := by
  refine ⟨by rw [List.length_set]; exact h.1, ?_⟩
  rcases h.2 with ⟨h1, _⟩ | ⟨g', c', cur, h1, h2, h3, h4, h5, h6, h7⟩
  · cases h1
  · injection h1 with e1 e2 e3
    injection e1 with e1
    injection e1 with e1
    subst e1 e2 e3
    exact .inr ⟨g, c, cur.setIfInBounds j u, rfl, h2, heap_setCell_same _ _ _ _ _ _ h3, h4, h5, by simpa using h6, by rw [Array.toList_setIfInBounds, List.take_set, h7]⟩
/-- It is set, and another row of another type stays. -/
theorem own_other {g j : Nat} {c : Array Value} {t : TypeId} (h : w.ownsRow B e 1 v n xs) (hg : w.heap[g]? = some (.cells c t (0, 0))) (ht : t ≠ e) (u : Value) : (w.setCell ⟨g, j, none⟩ u).ownsRow B e 1 v n xs :=
  own_chg h (chg_set _ _ _ _) fun k hk q => by
    subst q
    obtain ⟨_, _, c', hc⟩ := own_ty h hk
    exact ne_of_ty hg hc ht rfl
/-- Its last place is given up. -/
theorem own_pop {a : Option Addr} {m c : Nat} {u : Value} (h : w.ownsRow B e 1 (.slice a m c) (n + 1) (xs ++ [u])) : w.ownsRow B e 1 (.slice a n c) n xs := by
  have hl := own_len h
  rw [List.length_append] at hl
  simp at hl
  refine ⟨by omega, ?_⟩
  rcases h.2 with ⟨_, h1⟩ | ⟨g', c', cur, h1, h2, h3, h4, h5, h6, h7⟩
  · omega
  · injection h1 with e1 e2 e3
    subst e1 e2 e3
    refine .inr ⟨g', c, cur, rfl, h2, h3, by omega, h5, h6, ?_⟩
    have := congrArg (List.take (n * 1)) h7
    rw [List.take_take, show min (n * 1) ((n + 1) * 1) = n * 1 by omega, List.take_left' (by omega)] at this
    exact this
end

/-! Lists that are only read. -/
def ListAt {α : Type} (f : α → Value) (w : World) (v : Value) (l : List α) : Prop :=
  (v = .slice none 0 0 ∧ l = []) ∨ ∃ (x : Addr) (c : Nat), v = .slice (some x) l.length c ∧ l.length ≤ c ∧ c ≤ maxLen ∧ ∀ j (h : j < l.length), (x.add j).block < w.heap.size ∧ w.cell? (x.add j) = some (f l[j])
section
variable {α : Type} {f : α → Value} {w w' : World} {v : Value} {l : List α}
theorem ListAt.form (h : ListAt f w v l) : ∃ a c, v = .slice a l.length c := by
  rcases h with ⟨h1, h2⟩ | ⟨x, c, h1, _⟩
  · exact ⟨none, 0, by rw [h1, h2]; rfl⟩
  · exact ⟨_, _, h1⟩
theorem ListAt.kept (h : ListAt f w v l) (hk : Kept w w') : ListAt f w' v l := by
  rcases h with h | ⟨x, c, h1, h2, h3, h4⟩
  · exact .inl h
  · exact .inr ⟨x, c, h1, h2, h3, fun j hj => ⟨Nat.lt_of_lt_of_le (h4 j hj).1 hk.size, (World.cell?_of_block (a := x.add j) (hk.block (x.add j).block (h4 j hj).1)).trans (h4 j hj).2⟩⟩
theorem ListAt.at {a : Option Addr} {c n j : Nat} (h : ListAt f w (.slice a n c) l) (hj : j < l.length) : ∃ x, a = some x ∧ l.length ≤ c ∧ c ≤ maxLen ∧ w.cell? (x.add j) = some (f l[j]) := by
  rcases h with ⟨h1, h2⟩ | ⟨x, c', h1, h2, h3, h5⟩
  · subst h2; simp at hj
  · injection h1 with e1 e2 e3
    subst e1 e3
    exact ⟨x, rfl, h2, h3, (h5 j hj).2⟩
theorem ListAt.small (h : ListAt f w v l) : l.length ≤ maxLen := by
  rcases h with ⟨_, h⟩ | ⟨x, c, _, h1, h2, _⟩
  · subst h; exact Nat.zero_le _
  · omega
theorem list_nil (w : World) : ListAt f w (.slice none 0 0) [] := .inl ⟨rfl, rfl⟩
theorem own_list {B : Nat} {e : TypeId} (h : w.ownsRow B e 1 v l.length (l.map f)) : ListAt f w v l := by
  by_cases hn : l = []
  · subst hn
    rcases h.2 with ⟨h1, _⟩ | ⟨g, c, cur, h1, _, _, h4, h5, _⟩
    · exact .inl ⟨h1, rfl⟩
    · exact .inr ⟨_, c, h1, h4, h5, fun j hj => absurd hj (by simp)⟩
  · rcases h.2 with ⟨_, h1⟩ | ⟨g, c, cur, h1, h2, h3, h4, h5, h6, h7⟩
    · exact absurd (List.length_eq_zero_iff.1 h1) hn
    · subst h1
      refine .inr ⟨⟨g, 0, none⟩, c, rfl, h4, h5, fun j hj => ?_⟩
      obtain ⟨g', e1, _, _, _, e4, _⟩ := own_at h (j := j) (by simpa using hj)
      injection e1 with e1
      injection e1 with e1
      subst e1
      have hadd : (⟨g, 0, none⟩ : Addr).add j = ⟨g, j, none⟩ := by unfold Addr.add; split <;> simp_all
      rw [hadd]
      exact ⟨(Array.getElem?_eq_some_iff.1 h3).1, by rw [e4]; simp⟩
end
def vi (n : Int) : Value := .int .i64 n
def vb (b : Bool) : Value := .bool b
def vn (n : Nat) : Value := .int .i64 (n : Int)
def Wf (l : List Int) : Prop := ∀ n ∈ l, (Lit.int .i64 n).wf = true
theorem Wf.at {l : List Int} (h : Wf l) {j : Nat} (hj : j < l.length) : -9223372036854775808 ≤ l[j] ∧ l[j] ≤ 9223372036854775807 := by
  have := h _ (List.getElem_mem hj)
  exact bounds_i64 this
/-- A graph in memory. -/
def GraphAt (w : World) (v : Value) (g : Gr) : Prop :=
  (∀ l ∈ g, Wf l) ∧ ∃ us : List Value, ListAt id w v us ∧ us.length = g.length ∧ ∀ j (h : j < g.length) (h' : j < us.length), ListAt vi w us[j] g[j]
theorem GraphAt.kept {w w' : World} {v : Value} {g : Gr} (h : GraphAt w v g) (hk : Kept w w') : GraphAt w' v g := by
  obtain ⟨h0, us, h1, h2, h3⟩ := h
  exact ⟨h0, us, h1.kept hk, h2, fun j hj hj' => (h3 j hj hj').kept hk⟩
theorem GraphAt.form {w : World} {v : Value} {g : Gr} (h : GraphAt w v g) : ∃ a c, v = .slice a g.length c := by
  obtain ⟨h0, us, h1, h2, h3⟩ := h
  rw [← h2]; exact h1.form
theorem GraphAt.small {w : World} {v : Value} {g : Gr} (h : GraphAt w v g) : g.length ≤ maxLen := by
  obtain ⟨h0, us, h1, h2, h3⟩ := h
  rw [← h2]; exact h1.small
/-- A row of it. -/
theorem GraphAt.at {w : World} {a : Option Addr} {c n j : Nat} {g : Gr} (h : GraphAt w (.slice a n c) g) (hj : j < g.length) :
    ∃ x b d, a = some x ∧ g.length ≤ c ∧ c ≤ maxLen ∧ w.cell? (x.add j) = some (.slice b (row g j).length d) ∧ ListAt vi w (.slice b (row g j).length d) (row g j) ∧ Wf (row g j) := by
  obtain ⟨h0, us, h1, h2, h3⟩ := h
  have hj' : j < us.length := by omega
  obtain ⟨x, e1, e2, e3, e4⟩ := h1.at hj'
  have hr : row g j = g[j] := by unfold row; rw [List.getD_eq_getElem?_getD, List.getElem?_eq_getElem hj]; rfl
  have h4 := h3 j hj hj'
  obtain ⟨b, d, e5⟩ := h4.form
  rw [e5] at h4
  simp only [id, e5] at e4
  rw [hr]
  exact ⟨x, b, d, e1, by omega, e3, e4, h4, h0 _ (List.getElem_mem hj)⟩
end Go.Proofs.YtpkebokfbigggaaDoor.Shp
