/-
  A memory's blocks as plain rows (type, values): what Get and Set do to them; what a memory of our own does leaves what was there alone.
-/
import Derived.Test.YtkdfkibpoccmlaaMemM
import Derived.Test.YtkdfkibpoccmlaaMemE
namespace Go.Proofs.Ytkdfkibpoccmlaa.Mem
open Go.RowKit
open Typ (wrapF)

abbrev Row := Int × List Int
def getT (T : List Row) (id at_ : Int) : Int × Bool :=
  if 0 ≤ id ∧ 0 ≤ at_ then match T[id.toNat]? with
    | some x => match x.2[at_.toNat]? with
      | some n => (n, true)
      | none => (0, false)
    | none => (0, false)
  else (0, false)
def setT (T : List Row) (id at_ v : Int) : List Row :=
  if (getT T id at_).2 then match T[id.toNat]? with
    | some x => T.set id.toNat (x.1, x.2.set at_.toNat (wrapF x.1 v))
    | none => T
  else T
theorem getV_tv (L : List Bk) (id at_ : Int) : getV L id at_ = getT (L.map tv) id at_ := by
  unfold getV getT
  split
  · rw [List.getElem?_map]
    cases L[id.toNat]? with
    | none => rfl
    | some x => rfl
  · rfl
theorem setOk_tv (L : List Bk) (id at_ : Int) : setOk L id at_ = (getT (L.map tv) id at_).2 := by unfold setOk; rw [getV_tv]
theorem setL_tv (L : List Bk) (id at_ v : Int) : (setL L id at_ v).map tv = setT (L.map tv) id at_ v := by
  unfold setL setT
  rw [setOk_tv]
  split
  · rw [List.getElem?_map]
    cases h : L[id.toNat]? with
    | none => rfl
    | some x => rw [List.map_set]; rfl
  · rfl
theorem blkIn_tv (L : List Bk) (id : Int) : blkIn L id = decide (0 ≤ id ∧ id < (L.map tv).length) := by unfold blkIn; simp
theorem blkV_tv (L : List Bk) (id : Int) : blkV L id = if 0 ≤ id then (((L.map tv)[id.toNat]?).getD (0, [])).2 else [] := by
  unfold blkV blkIn
  by_cases h : 0 ≤ id
  · by_cases h2 : id < L.length
    · have h3 : id.toNat < L.length := by omega
      simp [h, h2, h3, tv]
    · simp [h, h2]
  · simp [h]
theorem blkT_tv (L : List Bk) (id : Int) : blkT L id = if 0 ≤ id then (((L.map tv)[id.toNat]?).getD (0, [])).1 else 0 := by
  unfold blkT blkIn
  by_cases h : 0 ≤ id
  · by_cases h2 : id < L.length
    · have h3 : id.toNat < L.length := by omega
      simp [h, h2, h3, tv]
    · simp [h, h2]
  · simp [h]
theorem noughts_len (size : Int) : 1 ≤ (noughts size).length ∧ (noughts size).length ≤ 16 := by unfold noughts; rw [List.length_replicate]; omega

theorem own_base {w : World} {base n size : Nat} {e : TypeId} {v : Value} {xs : List Value} (h : w.ownsRow base e size v n xs) {g : Nat} (hg : v.ownBlock = some g) : base ≤ g := by
  rcases h.2 with ⟨rfl, _⟩ | ⟨g', cap, c, rfl, h1, _⟩
  · simp [Value.ownBlock] at hg
  · simp [Value.ownBlock] at hg; omega
theorem MemAt.kept_add {B : Nat} {tM : TypeId} {w0 w w' : World} {p : Nat} {v : Value} {L : List Bk} (h : MemAt B tM w p v L) (hB : w0.heap.size ≤ B) (hk : Kept w0 w) (hc : Chg (fun k => k = p ∨ v.ownBlock = some k) w w') : Kept w0 w' :=
  kept_new hk hc fun k hk' hs => by
    rcases hs with hs | hs
    · have := h.lo; omega
    · have := own_base h.row hs; omega
theorem MemAt.kept_set {B : Nat} {tM : TypeId} {w0 w w' : World} {p : Nat} {v : Value} {L : List Bk} (h : MemAt B tM w p v L) (hB : w0.heap.size ≤ B) (hk : Kept w0 w) (hc : Chg (fun k => ∃ x ∈ L, k = x.g) w w') : Kept w0 w' :=
  kept_new hk hc fun k hk' hs => by
    obtain ⟨x, hx, rfl⟩ := hs
    have := (h.inn x hx).lo; omega

/-- A list of blocks of so many noughts each, of type I32. -/
def sz (z : List Int) (i : Nat) : Int := 1 + z.getD i 0 % 16
def rowsF (z : List Int) (n : Nat) : List Row := (List.range n).map fun i => (5, List.replicate (sz z i).toNat 0)
theorem sz_b (z : List Int) (i : Nat) : 1 ≤ sz z i ∧ sz z i ≤ 16 := by unfold sz; omega
theorem rowsF_len (z : List Int) (n : Nat) : (rowsF z n).length = n := by simp [rowsF]
theorem rowsF_succ (z : List Int) (n : Nat) : rowsF z (n + 1) = rowsF z n ++ [(5, noughts (sz z n))] := by
  unfold rowsF noughts
  have := sz_b z n
  rw [List.range_succ, List.map_append, show (min (max (sz z n) 1) 16) = sz z n by omega]; rfl
theorem rowsF_at (z : List Int) {n i : Nat} (h : i < n) : (rowsF z n)[i]? = some (5, List.replicate (sz z i).toNat 0) := by simp [rowsF, h]
theorem get_yes {T : List Row} {i j : Nat} {x : Row} {n : Int} (hi : T[i]? = some x) (hj : x.2[j]? = some n) : getT T i j = (n, true) := by
  unfold getT
  rw [if_pos ⟨by omega, by omega⟩, Int.toNat_natCast, hi]; simp only [Int.toNat_natCast, hj]
theorem get_no {T : List Row} {i j : Nat} {x : Row} (hi : T[i]? = some x) (hj : x.2.length ≤ j) : getT T i j = (0, false) := by
  unfold getT
  rw [if_pos ⟨by omega, by omega⟩, Int.toNat_natCast, hi]; simp only [Int.toNat_natCast, List.getElem?_eq_none hj]
theorem get_none {T : List Row} {i j : Nat} (hi : T.length ≤ i) : getT T i j = (0, false) := by
  unfold getT
  rw [if_pos ⟨by omega, by omega⟩, Int.toNat_natCast, List.getElem?_eq_none hi]
theorem repl_at {m j : Nat} (h : j < m) : (List.replicate m (0 : Int))[j]? = some 0 := by rw [List.getElem?_replicate, if_pos h]
theorem rowsF_get (z : List Int) {n i j : Nat} (h : i < n) (hj : (j : Int) < sz z i) : getT (rowsF z n) i j = (0, true) :=
  get_yes (rowsF_at z h) (repl_at (by omega))
/-- The rows behind the Set of one value. -/
theorem rowsF_set (z : List Int) {n k j : Nat} (v : Int) (h : k < n) (hj : (j : Int) < sz z k) (hv : -2147483648 ≤ v ∧ v ≤ 2147483647) :
    setT (rowsF z n) k j v = (rowsF z n).set k (5, (List.replicate (sz z k).toNat 0).set j v) := by
  have hw : wrapF 5 v = v := by unfold wrapF; simp <;> omega
  unfold setT
  rw [rowsF_get z h hj, if_pos rfl, Int.toNat_natCast, rowsF_at z h]
  simp only [Int.toNat_natCast, hw]
theorem rowsF_set_get (z : List Int) {n k j i l : Nat} (v : Int) (h : i < n) (hl : (l : Int) < sz z i) :
    getT ((rowsF z n).set k (5, (List.replicate (sz z k).toNat 0).set j v)) i l = (if i = k ∧ l = j then v else 0, true) := by
  by_cases hik : i = k
  · subst hik
    refine get_yes (x := (5, (List.replicate (sz z i).toNat 0).set j v)) (by simp [rowsF_len, h]) ?_
    rw [List.getElem?_set, List.length_replicate]
    by_cases hlj : j = l
    · subst hlj; rw [if_pos rfl, if_pos (by omega)]; simp
    · rw [if_neg hlj, if_neg (by omega)]; exact repl_at (by omega)
  · refine get_yes (x := (5, List.replicate (sz z i).toNat 0)) ?_ ?_
    · rw [List.getElem?_set_ne (fun e => hik e.symm)]; exact rowsF_at z h
    · rw [if_neg (fun e => hik e.1)]; exact repl_at (by omega)
end Go.Proofs.Ytkdfkibpoccmlaa.Mem
