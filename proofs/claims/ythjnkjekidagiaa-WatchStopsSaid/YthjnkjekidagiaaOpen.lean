/-
  Slices of structs of integers that came in: what the walk is told of them. No program is named here.
-/
import Derived.WalkKit
import Derived.ProofKit
import Derived.OpenShut
import Derived.Deep.Slices
import Derived.ChangeOld
import Derived.Below
namespace Go.Proofs.Ythjnkjekidagiaa
open Go.ChangeShapes Go.WideShapes Go.ChangeAt Go.RowKit

/-- A slice of structs of k integers (of Go's int): nil, or its cells: element i's field j is a number. -/
def IsInts (k : Nat) (w : World) (a : Option Addr) (len cap : Nat) : Prop :=
  (a = none ∧ len = 0 ∧ cap = 0) ∨
  ∃ x, a = some x ∧ len ≤ cap ∧ cap ≤ maxLen ∧ ∀ i, i < len → ∀ j, j < k → ∃ n, w.cell? (x.add (i * k + j)) = some (.int .i64 n) ∧ (Lit.int .i64 n).wf = true

theorem add_add' (a : Addr) (i j : Nat) : (a.add i).add j = a.add (i + j) := by
  unfold Addr.add
  split <;> split <;> simp_all <;> omega

theorem open_structs {H : Type} {enc : TypeId × Value → H} {P : Program} {w : World} {base : Nat} {spare : Nat → Bool} {held : Bool} {t e tf : TypeId} {fs : Array Field} {fuel : Nat} {a : Option Addr} {len cap : Nat} {x : DataW H × List MemPlace}
    (ht : P.underlying t = some (.slice e)) (he : P.underlying e = some (.struct fs)) (hf : P.underlying tf = some (.int .i64)) (ce : P.cellsOf e = fs.size) (cf : P.cellsOf tf = 1)
    (hfs : ∀ (j : Nat) (f : Field), fs[j]? = some f → f.offset = j ∧ f.type = tf)
    (h : DataW.trod enc P w base spare held fuel t [.slice a len cap] = some x) : IsInts fs.size w a len cap := by
  rcases Go.Deep.open_slice ht h with ⟨hcs, _⟩ | ⟨a', l', c', m, n, D, Pl, hcs, _, hl, hm, hmm, _, hx⟩
  · simp at hcs
    exact .inl hcs
  · simp at hcs
    obtain ⟨rfl, rfl, rfl⟩ := hcs
    refine .inr ⟨a', rfl, hl, hm, fun i hi j hj => ?_⟩
    have him : i < m := by rw [hmm]; split <;> omega
    obtain ⟨cs', h1, h2⟩ := hx i him
    obtain ⟨_, hlen, hcell⟩ := World.cells?_some h1
    obtain ⟨xs, q, _, _, _, hxl, hff⟩ := DataW.trod_struct he h2
    have e1 : fs[j]? = some fs[j] := by simp [hj]
    have g := hff j fs[j] e1
    obtain ⟨o1, o2⟩ := hfs j fs[j] e1
    rw [o1, o2, cf, List.getElem?_eq_getElem (by omega)] at g
    obtain ⟨z, g1, _, g2⟩ := DataW.trod_int hf g
    refine ⟨z, ?_, g2⟩
    have h3 := hcell j (by omega)
    rw [add_add', ce] at h3
    rw [h3]
    have h4 : (List.take 1 (List.drop j cs'))[0]? = some (.int .i64 z) := by rw [g1]; rfl
    rw [List.getElem?_take, if_pos (by omega), List.getElem?_drop, Nat.add_zero] at h4
    exact h4

/-- A slice of bools that came in: nil, or its cells. -/
def IsBools (w : World) (a : Option Addr) (len cap : Nat) (z : Nat → Bool) : Prop :=
  (a = none ∧ len = 0 ∧ cap = 0) ∨ ∃ x, a = some x ∧ len ≤ cap ∧ cap ≤ maxLen ∧ ∀ i, i < len → w.cell? (x.add i) = some (.bool (z i))

theorem open_boolrow {H : Type} {enc : TypeId × Value → H} {P : Program} {w : World} {base : Nat} {spare : Nat → Bool} {held : Bool} {t e : TypeId} {fuel : Nat} {a : Option Addr} {len cap : Nat} {x : DataW H × List MemPlace}
    (ht : P.underlying t = some (.slice e)) (he : P.underlying e = some .bool) (ce : P.cellsOf e = 1)
    (h : DataW.trod enc P w base spare held fuel t [.slice a len cap] = some x) : ∃ z, IsBools w a len cap z := by
  rcases Go.Deep.open_slice1 ht ce h with ⟨hcs, _⟩ | ⟨a', l', c', m, n, V, D, Pl, hcs, _, hl, hm, hmm, _, hx⟩
  · simp at hcs
    exact ⟨fun _ => false, .inl hcs⟩
  · simp at hcs
    obtain ⟨rfl, rfl, rfl⟩ := hcs
    have hb : ∀ i, i < len → ∃ b, w.cell? (a'.add i) = some (.bool b) := fun i hi => by
      have him : i < m := by rw [hmm]; split <;> omega
      obtain ⟨h1, h2⟩ := hx i him
      obtain ⟨b, h3, _⟩ := DataW.trod_bool he h2
      exact ⟨b, by rw [h1]; simpa using h3⟩
    exact ⟨fun i => if h : i < len then Classical.choose (hb i h) else false, .inr ⟨a', rfl, hl, hm, fun i hi => by simp only [hi, dite_true]; exact Classical.choose_spec (hb i hi)⟩⟩
end Go.Proofs.Ythjnkjekidagiaa
