/-
  'Nothing but these blocks has changed' (Chg), rows of a slice of one's own over such a change, and a memory of blocks (package memory, and the document's): what lies in the cells (MemAt).
-/
import Derived.Test.YthjnkjekidagiaaBase
import Derived.Test.YthjnkjekidagiaaRows
import Derived.RegionTactic
import Derived.ChangeAlike
import Derived.Deep.QuietTactic
import Derived.BigQuiet
import Derived.WalkLawsBesides
import Derived.WalkKit
import Derived.WalkSpells
import Derived.IntWalk
import Derived.Deep.AppendLies
import Derived.Deep.RegionLaw
import Derived.OwnWalk
import Derived.Lib.Hide
namespace Go.Proofs.Ythjnkjekidagiaa.Mem
open Go.RowKit

/-- Nothing but the blocks of S has changed; no block has gone. -/
structure Chg (S : Nat → Prop) (w w' : World) : Prop where
  os : w'.os = w.os
  tape : w'.tape = w.tape
  output : w'.output = w.output
  size : w.heap.size ≤ w'.heap.size
  block : ∀ k, k < w.heap.size → ¬ S k → w'.heap[k]? = w.heap[k]?
theorem Chg.refl (S : Nat → Prop) (w : World) : Chg S w w := ⟨rfl, rfl, rfl, Nat.le_refl _, fun _ _ _ => rfl⟩
theorem Chg.trans {S T : Nat → Prop} {a b c : World} (h : Chg S a b) (k : Chg T b c) (hs : ∀ i, i < a.heap.size → T i → S i) : Chg S a c :=
  ⟨k.os.trans h.os, k.tape.trans h.tape, k.output.trans h.output, Nat.le_trans h.size k.size, fun i hi hn => (k.block i (Nat.lt_of_lt_of_le hi h.size) (fun ht => hn (hs i hi ht))).trans (h.block i hi hn)⟩
theorem Chg.then {S : Nat → Prop} {a b c : World} (h : Chg S a b) (k : Chg S b c) : Chg S a c := h.trans k fun _ _ h => h
theorem Chg.mono {S T : Nat → Prop} {a b : World} (h : Chg S a b) (hs : ∀ i, i < a.heap.size → S i → T i) : Chg T a b :=
  ⟨h.os, h.tape, h.output, h.size, fun i hi hn => h.block i hi (fun k => hn (hs i hi k))⟩
theorem Chg.of_kept {S : Nat → Prop} {a b : World} (h : Kept a b) : Chg S a b := ⟨h.os, h.tape, h.output, h.size, fun i hi _ => h.block i hi⟩
theorem Chg.kept {S : Nat → Prop} {a b : World} (h : Chg S a b) (hs : ∀ i, i < a.heap.size → ¬ S i) : Kept a b := ⟨h.os, h.tape, h.output, h.size, fun i hi => h.block i hi (hs i hi)⟩
theorem Chg.keep {S : Nat → Prop} {a b c : World} (h : Chg S a b) (k : Kept b c) : Chg S a c := h.then (Chg.of_kept k)
theorem Chg.drew {S : Nat → Prop} {a b : World} (h : Chg S a b) : Chg S a b.drew := ⟨h.os, h.tape, h.output, h.size, h.block⟩
theorem Chg.drewN {S : Nat → Prop} {a b : World} (h : Chg S a b) (n : Nat) : Chg S a (b.drewN n) := ⟨h.os, h.tape, h.output, h.size, h.block⟩
theorem Chg.alloc {S : Nat → Prop} {a b : World} (h : Chg S a b) (o : Obj) : Chg S a (b.alloc o) := h.keep ((Kept.refl b).alloc o)
theorem Chg.setCell {S : Nat → Prop} {a b : World} (h : Chg S a b) {p : Addr} (hp : p.block < a.heap.size → S p.block) (u : Value) : Chg S a (b.setCell p u) :=
  h.trans (T := fun k => k = p.block) ⟨rfl, rfl, rfl, by simp [World.setCell], fun k _ hk => Below.heap_setCell _ _ _ _ hk⟩ fun i hi e => by subst e; exact hp hi
theorem Chg.grown {S : Nat → Prop} {a b c : World} {row : Option Nat} (h : Chg S a b) (hg : b.grownBy c row) (hr : ∀ k, k < a.heap.size → row = some k → S k) : Chg S a c :=
  h.trans (T := fun k => row = some k) ⟨hg.os, hg.tape, hg.output, hg.size, fun k hk hn => hg.block k hk (fun e => hn e.symm)⟩ hr
theorem Chg.heap {S : Nat → Prop} {a b : World} (h : Chg S a b) {k : Nat} {o : Obj} (hk : a.heap[k]? = some o) (hn : ¬ S k) : b.heap[k]? = some o :=
  (h.block k (Array.getElem?_eq_some_iff.1 hk).1 hn).trans hk
theorem ne_of_ty {w : World} {a b : Nat} {c c' : Array Value} {t t' : TypeId} {z z' : Nat × Nat} (h : w.heap[a]? = some (.cells c t z)) (h' : w.heap[b]? = some (.cells c' t' z')) (hn : t ≠ t') : a ≠ b := by
  intro e; subst e; rw [h] at h'; injection h' with h'; injection h' with _ h'; exact hn h'

theorem box_cell {w : World} {b : Nat} {cs : Array Value} {t : TypeId} (h : w.heap[b]? = some (.cells cs t (0, 0))) (o : Nat) (u : Value) (hu : cs[o]? = some u) : w.cell? ⟨b, o, none⟩ = some u := by simpa [World.cell?, h] using hu
theorem box_froz {w : World} {b : Nat} {cs : Array Value} {t : TypeId} (h : w.heap[b]? = some (.cells cs t (0, 0))) (o : Nat) : w.frozen? ⟨b, o, none⟩ = false := by simp [World.frozen?, h]
theorem chg_set (w : World) (r o : Nat) (u : Value) : Chg (fun k => k = r) w (w.setCell ⟨r, o, none⟩ u) := (Chg.refl (fun k => k = r) w).setCell (fun _ => rfl) _
theorem box_lt {w : World} {b : Nat} {o : Obj} (h : w.heap[b]? = some o) : b < w.heap.size := (Array.getElem?_eq_some_iff.1 h).1
theorem own_ty {w : World} {base n size : Nat} {e : TypeId} {v : Value} {xs : List Value} (h : w.ownsRow base e size v n xs) {g : Nat} (hg : v.ownBlock = some g) : ∃ c, w.heap[g]? = some (.cells c e (0, 0)) := by
  rcases h.2 with ⟨rfl, _⟩ | ⟨g', cap, c, rfl, _, h1, _⟩
  · simp [Value.ownBlock] at hg
  · simp [Value.ownBlock] at hg; subst hg; exact ⟨c, h1⟩

theorem own_chg {S : Nat → Prop} {w w' : World} {base n size : Nat} {e : TypeId} {v : Value} {xs : List Value} (h : w.ownsRow base e size v n xs) (hc : Chg S w w') (hn : ∀ g, v.ownBlock = some g → ¬ S g) : w'.ownsRow base e size v n xs := by
  refine ⟨h.1, ?_⟩
  rcases h.2 with h2 | ⟨g, cap, c, rfl, h1, h2, h3⟩
  · exact .inl h2
  · exact .inr ⟨g, cap, c, rfl, h1, hc.heap h2 (hn g rfl), h3⟩

/-- What a list's pointer leads to behind a step: the pointer's cell has the new list; nothing but that cell and the list's own row has changed. -/
structure Put (w w' : World) (q o : Nat) (cur : Array Value) (t : TypeId) (v v' : Value) : Prop where
  box : w'.heap[q]? = some (.cells (cur.setIfInBounds o v') t (0, 0))
  at_ : v'.ownBlock = v.ownBlock ∨ ∃ g, v'.ownBlock = some g ∧ w.heap.size ≤ g


/-- A block: where its values lie, how many there is room for, its type, its values. -/
structure Bk where
  g : Nat
  c : Nat
  ty : Int
  vals : List Int
def ints (l : List Int) : List Value := l.map fun n => .int .i64 n
def bkVal (x : Bk) : Value := .slice (some ⟨x.g, 0, none⟩) x.vals.length x.c
def bkCell (x : Bk) : List Value := [.int .i64 x.ty, bkVal x]
def bkCells (l : List Bk) : List Value := l.flatMap bkCell
theorem bkCells_snoc (l : List Bk) (x : Bk) : bkCells (l ++ [x]) = bkCells l ++ bkCell x := by simp [bkCells]
theorem bkCells_length (l : List Bk) : (bkCells l).length = l.length * 2 := by
  induction l with
  | nil => rfl
  | cons x l ih =>
    have : bkCells (x :: l) = bkCell x ++ bkCells l := by simp [bkCells]
    rw [this, List.length_append, ih]; simp [bkCell]; omega
theorem bkCells_at (l : List Bk) (i : Nat) (hi : i < l.length) : (bkCells l)[i * 2]? = some (.int .i64 l[i].ty) ∧ (bkCells l)[i * 2 + 1]? = some (bkVal l[i]) := by
  induction l generalizing i with
  | nil => simp at hi
  | cons x l ih =>
    have e : bkCells (x :: l) = bkCell x ++ bkCells l := by simp [bkCells]
    rw [e]
    cases i with
    | zero => simp [bkCell]
    | succ i =>
      have := ih i (by simpa using hi)
      rw [show (i + 1) * 2 = i * 2 + 2 by omega, show i * 2 + 2 + 1 = i * 2 + 1 + 2 by omega]
      simpa [bkCell] using this

/-- One block's values in memory: a row of its own. -/
def Inn (B : Nat) (w : World) (x : Bk) : Prop := w.ownsRow B 3 1 (bkVal x) x.vals.length (ints x.vals)

/-- The memory at p (a struct of the type tM with one field, the list v of blocks) has the blocks L. -/
structure MemAt (B : Nat) (tM : TypeId) (w : World) (p : Nat) (v : Value) (L : List Bk) : Prop where
  lo : B ≤ p
  box : w.heap[p]? = some (.cells #[v] tM (0, 0))
  row : w.ownsRow B 62 2 v L.length (bkCells L)
  inn : ∀ x ∈ L, Inn B w x
  sep : (L.map (·.g)).Nodup
  pos : ∀ x ∈ L, 0 < x.vals.length

theorem Inn.chg {B : Nat} {S : Nat → Prop} {w w' : World} {x : Bk} (h : Inn B w x) (hc : Chg S w w') (hn : ¬ S x.g) : Inn B w' x :=
  own_chg h hc fun g hg => by simp [bkVal, Value.ownBlock] at hg; subst hg; exact hn
theorem Inn.lo {B : Nat} {w : World} {x : Bk} (h : Inn B w x) : B ≤ x.g := by
  rcases h.2 with ⟨h1, _⟩ | ⟨g, cap, c, h1, h2, _⟩
  · simp [bkVal] at h1
  · simp only [bkVal] at h1; injection h1 with h1; injection h1 with h1; injection h1 with h1; omega
theorem Inn.cells {B : Nat} {w : World} {x : Bk} (h : Inn B w x) : ∃ cur, w.heap[x.g]? = some (.cells cur 3 (0, 0)) ∧ x.vals.length ≤ x.c ∧ x.c ≤ maxLen ∧ cur.size = x.c ∧ cur.toList.take x.vals.length = ints x.vals := by
  rcases h.2 with ⟨h1, _⟩ | ⟨g, cap, c, h1, h2, h3, h4, h5, h6, h7⟩
  · simp [bkVal] at h1
  · simp only [bkVal] at h1
    injection h1 with h1 h1b h1c
    injection h1 with h1
    injection h1 with h1
    subst h1; subst h1c
    exact ⟨c, h3, h4, h5, by simpa using h6, by simpa using h7⟩
theorem MemAt.chg {B : Nat} {tM : TypeId} {S : Nat → Prop} {w w' : World} {p : Nat} {v : Value} {L : List Bk} (h : MemAt B tM w p v L) (hc : Chg S w w') (h1 : ¬ S p) (h2 : ∀ g, v.ownBlock = some g → ¬ S g) (h3 : ∀ x ∈ L, ¬ S x.g) : MemAt B tM w' p v L :=
  ⟨h.lo, hc.heap h.box h1, own_chg h.row hc h2, fun x hx => (h.inn x hx).chg hc (h3 x hx), h.sep, h.pos⟩
theorem MemAt.drew {B : Nat} {tM : TypeId} {w : World} {p : Nat} {v : Value} {L : List Bk} (h : MemAt B tM w p v L) : MemAt B tM w.drew p v L :=
  h.chg ((Chg.refl (fun _ => False) w).drew) id (fun _ _ => id) (fun _ _ => id)
theorem MemAt.drewN {B : Nat} {tM : TypeId} {w : World} {p : Nat} {v : Value} {L : List Bk} (h : MemAt B tM w p v L) (n : Nat) : MemAt B tM (w.drewN n) p v L :=
  h.chg ((Chg.refl (fun _ => False) w).drewN n) id (fun _ _ => id) (fun _ _ => id)
theorem MemAt.kept {B : Nat} {tM : TypeId} {w w' : World} {p : Nat} {v : Value} {L : List Bk} (h : MemAt B tM w p v L) (hk : Kept w w') : MemAt B tM w' p v L :=
  h.chg (S := fun _ => False) (Chg.of_kept hk) id (fun _ _ => id) (fun _ _ => id)
/-- The list's row, and where its elements stand. -/
theorem MemAt.out {B : Nat} {tM : TypeId} {w : World} {p : Nat} {v : Value} {L : List Bk} (h : MemAt B tM w p v L) :
    (L = [] ∧ v = .slice none 0 0) ∨ ∃ o cap cur, v = .slice (some ⟨o, 0, none⟩) L.length cap ∧ w.heap[o]? = some (.cells cur 62 (0, 0)) ∧ L.length ≤ cap ∧ cap ≤ maxLen ∧
      (∀ i (hi : i < L.length), w.cell? ⟨o, i * 2, none⟩ = some (.int .i64 L[i].ty) ∧ w.cell? ⟨o, i * 2 + 1, none⟩ = some (bkVal L[i])) := by
  rcases h.row.2 with ⟨h1, h2⟩ | ⟨g, cap, c, h1, h2, h3, h4, h5, h6, h7⟩
  · exact .inl ⟨List.eq_nil_of_length_eq_zero h2, h1⟩
  · refine .inr ⟨g, cap, c, h1, h3, h4, h5, fun i hi => ?_⟩
    have hcell : ∀ (j : Nat) (u : Value), (bkCells L)[j]? = some u → w.cell? ⟨g, j, none⟩ = some u := by
      intro j u hj
      rw [← h7, List.getElem?_take] at hj
      split at hj
      · simpa [World.cell?, h3] using hj
      · cases hj
    have := bkCells_at L i hi
    exact ⟨hcell _ _ this.1, hcell _ _ this.2⟩
theorem MemAt.len {B : Nat} {tM : TypeId} {w : World} {p : Nat} {v : Value} {L : List Bk} (h : MemAt B tM w p v L) : ∃ a c, v = .slice a L.length c := by
  rcases h.out with ⟨rfl, rfl⟩ | ⟨o, cap, cur, rfl, _⟩
  · exact ⟨_, _, rfl⟩
  · exact ⟨_, _, rfl⟩
/-- One value's cell. -/
theorem Inn.val {B : Nat} {w : World} {x : Bk} (h : Inn B w x) (j : Nat) (hj : j < x.vals.length) : w.cell? ⟨x.g, j, none⟩ = some (.int .i64 x.vals[j]) := by
  obtain ⟨cur, h1, h2, h3, h4, h5⟩ := h.cells
  have h6 : (cur.toList.take x.vals.length)[j]? = some (.int .i64 x.vals[j]) := by rw [h5]; simp [ints, hj]
  rw [List.getElem?_take, if_pos hj] at h6
  simpa [World.cell?, h1] using h6
end Go.Proofs.Ythjnkjekidagiaa.Mem
