/-
  Package memory's methods over plain rows: Add, Get, Set, Block, Copy.
-/
import Derived.Test.YtkdfkibpoccmlaaMemN
namespace Go.Proofs.Ytkdfkibpoccmlaa.Mem
open Go.RowKit

def blkR (T : List Row) (id : Int) : Bool × Int × List Int :=
  if 0 ≤ id then match T[id.toNat]? with
    | some x => (true, x.1, x.2)
    | none => (false, 0, [])
  else (false, 0, [])
theorem blkR_tv (L : List Bk) (id : Int) : blkR (L.map tv) id = (blkIn L id, blkT L id, blkV L id) := by
  rw [blkIn_tv, blkT_tv, blkV_tv]
  unfold blkR
  by_cases h : 0 ≤ id
  · by_cases h2 : id < L.length
    · have h3 : id.toNat < L.length := by omega
      simp [h, h2, h3, tv]
    · simp [h, h2]
  · simp [h]
/-- All rows have from 1 to 16 values. -/
def Small (T : List Row) : Prop := ∀ x ∈ T, x.2.length ≤ 16
theorem Small.of {T : List Row} {L : List Bk} (h : Small T) (hT : L.map tv = T) : ∀ x ∈ L, x.vals.length ≤ 16 := fun x hx => h (tv x) (by rw [← hT]; exact List.mem_map_of_mem hx)
theorem Small.nil : Small [] := by intro x hx; cases hx
theorem Small.add {T : List Row} (h : Small T) (t size : Int) : Small (T ++ [(t, noughts size)]) := by
  intro x hx
  rw [List.mem_append, List.mem_singleton] at hx
  rcases hx with hx | rfl
  · exact h x hx
  · exact (noughts_len size).2
theorem Small.set {T : List Row} (h : Small T) (id at_ v : Int) : Small (setT T id at_ v) := by
  unfold setT
  split
  · split
    · rename_i x hx
      intro y hy
      rcases List.mem_or_eq_of_mem_set hy with hy | rfl
      · exact h y hy
      · simpa using h x (List.mem_of_getElem? hx)
    · exact h
  · exact h
theorem Small.take {T : List Row} (h : Small T) (n : Nat) : Small (T.take n) := fun x hx => h x (List.mem_of_mem_take hx)
theorem rowsF_small (z : List Int) (n : Nat) : Small (rowsF z n) := by
  intro x hx
  unfold rowsF at hx
  obtain ⟨i, -, rfl⟩ := List.mem_map.1 hx
  have := sz_b z i
  simp; omega
theorem setT_no {T : List Row} {id at_ v : Int} (h : (getT T id at_).2 = false) : setT T id at_ v = T := by unfold setT; rw [h]; rfl

theorem add_rows {B : Nat} {w : World} {p : Nat} {v : Value} {L : List Bk} {T : List Row} (h : MemAt B 51 w p v L) (hT : L.map tv = T) (hl : T.length ≤ 100000) (hB : B ≤ w.heap.size) (t size : Int) (hs : -9223372036854775808 ≤ size ∧ size ≤ 9223372036854775807) :
    Calls Try.prog 9 #[.pointer (some ⟨p, 0, none⟩), .int .i64 t, .int .i64 size] w fun e w' => e = .returned (.int .i64 T.length) ∧ Hid (∃ v' L', MemAt B 51 w' p v' L' ∧ L'.map tv = T ++ [(t, noughts size)] ∧ Chg (fun k => k = p ∨ v.ownBlock = some k) w w') := by
  have e : L.length = T.length := by rw [← hT]; simp
  refine (add_any h (by omega) hB t size hs).mono ?_
  rintro _ w' ⟨rfl, H⟩
  obtain ⟨v', g, h1, h2, h3, h4⟩ := H.out
  exact ⟨by rw [e], Lib.hid ⟨v', _, h2, by rw [List.map_append, hT]; rfl, h3⟩⟩
theorem get_rows {B : Nat} {w : World} {p : Nat} {v : Value} {L : List Bk} {T : List Row} (h : MemAt B 51 w p v L) (hT : L.map tv = T) {id at_ x : Int} {b : Bool} (hx : getT T id at_ = (x, b)) :
    Calls Try.prog 13 #[.pointer (some ⟨p, 0, none⟩), .int .i64 id, .int .i64 at_] w fun e w' => e = .returned (.tuple #[.int .i64 x, .bool b]) ∧ w = w' := by
  have := get_any h id at_
  rw [getV_tv, hT, hx] at this
  exact this
theorem set_rows {B : Nat} {w : World} {p : Nat} {v : Value} {L : List Bk} {T : List Row} (h : MemAt B 51 w p v L) (hT : L.map tv = T) {id at_ n : Int} {b : Bool} (hb : (getT T id at_).2 = b) :
    Calls Try.prog 11 #[.pointer (some ⟨p, 0, none⟩), .int .i64 id, .int .i64 at_, .int .i64 n] w fun e w' => e = .returned (.bool b) ∧ Hid (∃ L', MemAt B 51 w' p v L' ∧ L'.map tv = setT T id at_ n ∧ Chg (fun k => ∃ x ∈ L, k = x.g) w w') := by
  refine (set_any h id at_ n).mono ?_
  rintro _ w' ⟨rfl, h1, h2⟩
  refine ⟨by rw [setOk_tv, hT, hb], Lib.hid ⟨_, h1, ?_, h2⟩⟩
  rw [setL_tv, hT]
theorem set_none {B : Nat} {w : World} {p : Nat} {v : Value} {L : List Bk} {T : List Row} (h : MemAt B 51 w p v L) (hT : L.map tv = T) {id at_ : Int} (n : Int) {x : Int} (hb : getT T id at_ = (x, false)) :
    Calls Try.prog 11 #[.pointer (some ⟨p, 0, none⟩), .int .i64 id, .int .i64 at_, .int .i64 n] w fun e w' => e = .returned (.bool false) ∧ w = w' :=
  set_no h n (by rw [setOk_tv, hT, hb])
/-- A memory that stands apart from what was changed. -/
theorem MemAt.apart {B : Nat} {tM : TypeId} {S : Nat → Prop} {w w' : World} {p : Nat} {v : Value} {L : List Bk} (h : MemAt B tM w p v L) (hc : Chg S w w') (hS : ∀ k, S k → k < B) : MemAt B tM w' p v L :=
  h.chg hc (fun hs => by have := hS _ hs; have := h.lo; omega) (fun g hg hs => by have := hS _ hs; have := own_base h.row hg; omega) (fun x hx hs => by have := hS _ hs; have := (h.inn x hx).lo; omega)
theorem block_rows {B : Nat} {w : World} {p : Nat} {v : Value} {L : List Bk} {T : List Row} (h : MemAt B 51 w p v L) (hT : L.map tv = T) (hS : Small T) {id t : Int} {b : Bool} {l : List Int} (hb : blkR T id = (b, t, l)) :
    Calls Try.prog 19 #[.pointer (some ⟨p, 0, none⟩), .int .i64 id] w fun e w' => ∃ vs, e = .returned (.tuple #[.agg #[.int .i64 t, vs], .bool b]) ∧ Hid (Kept w w' ∧ w'.ownsRow w.heap.size 3 1 vs l.length (ints l)) := by
  have := block_any h (hS.of hT) id
  rw [← hT, blkR_tv] at hb
  injection hb with h1 h2
  injection h2 with h2 h3
  rw [h1, h2, h3] at this
  exact this
theorem copy_rows {B : Nat} {w : World} {p : Nat} {v : Value} {L : List Bk} {T : List Row} (h : MemAt B 51 w p v L) (hT : L.map tv = T) (hl : T.length ≤ 100000) (hS : Small T) :
    Calls Try.prog 17 #[.pointer (some ⟨p, 0, none⟩)] w fun e w' => ∃ q, e = .returned (.pointer (some ⟨q, 0, none⟩)) ∧ Hid (Kept w w' ∧ ∃ v' K, MemAt w.heap.size 51 w' q v' K ∧ K.map tv = T) := by
  have e : L.length = T.length := by rw [← hT]; simp
  have := copy_any h (by omega) (hS.of hT)
  rw [hT] at this
  exact this
theorem len_rows {B : Nat} {w : World} {p : Nat} {v : Value} {L : List Bk} {T : List Row} (h : MemAt B 51 w p v L) (hT : L.map tv = T) :
    Calls Try.prog 18 #[.pointer (some ⟨p, 0, none⟩)] w fun e w' => e = .returned (.int .i64 T.length) ∧ w = w' := by
  have := len_any h
  have e : L.length = T.length := by rw [← hT]; simp
  rw [e] at this
  exact this
end Go.Proofs.Ytkdfkibpoccmlaa.Mem
