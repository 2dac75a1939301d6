/-
  Contract of package memory's method Set: one value is turned, nothing else. (Fitted to the struct's one field and the method has.)
-/
import Derived.Test.YthjnkjekidagiaaMemB
import Derived.Test.YthjnkjekidagiaaTypW
namespace Go.Proofs.Ythjnkjekidagiaa.Mem
open Go.RowKit
open Typ (wrapF wrap_any)

/-- What Set does. -/
def turned (x : Bk) (j : Nat) (n : Int) : Bk := ⟨x.g, x.c, x.ty, x.vals.set j n⟩
def setB (x : Bk) (j : Nat) (v : Int) : Bk := turned x j (wrapF x.ty v)
def setOk (L : List Bk) (id at_ : Int) : Bool := (getV L id at_).2
def setL (L : List Bk) (id at_ v : Int) : List Bk :=
  if setOk L id at_ then match L[id.toNat]? with
    | some x => L.set id.toNat (setB x at_.toNat v)
    | none => L
  else L
theorem setL_no {L : List Bk} {id at_ v : Int} (h : setOk L id at_ = false) : setL L id at_ v = L := by unfold setL; rw [h]; rfl
theorem setL_yes {L : List Bk} {i j : Nat} {v : Int} (hi : i < L.length) (hj : j < L[i].vals.length) : setL L i j v = L.set i (setB L[i] j v) := by
  unfold setL setOk
  rw [getV_yes hi hj]
  have e : L[(i : Int).toNat]? = some L[i] := by simp [hi]
  simp only [e]; simp

theorem ints_set (l : List Int) (j : Nat) (n : Int) : ints (l.set j n) = (ints l).set j (.int .i64 n) := by unfold ints; rw [List.map_set]
theorem bkCells_set (L : List Bk) (i : Nat) (hi : i < L.length) (x : Bk) (h1 : x.ty = L[i].ty) (h2 : bkVal x = bkVal L[i]) : bkCells (L.set i x) = bkCells L := by
  unfold bkCells
  rw [List.flatMap_def, List.flatMap_def, List.map_set]
  have : bkCell x = bkCell L[i] := by unfold bkCell; rw [h1, h2]
  rw [this]
  congr 1
  apply List.ext_getElem
  · simp
  · intro k h3 h4
    rw [List.getElem_set]
    split
    · rename_i h5; subst h5; simp
    · rfl

/-- A value of a block is turned: the block has it; the others stay. -/
theorem MemAt.set {B : Nat} {tM : TypeId} {w : World} {p : Nat} {v : Value} {L : List Bk} (h : MemAt B tM w p v L) (hM : tM ≠ 3) {i j : Nat} (hi : i < L.length) (n : Int) :
    MemAt B tM (w.setCell ⟨L[i].g, j, none⟩ (.int .i64 n)) p v (L.set i (turned L[i] j n)) ∧ Chg (fun k => k = L[i].g) w (w.setCell ⟨L[i].g, j, none⟩ (.int .i64 n)) := by
  have hc : Chg (fun k => k = L[i].g) w (w.setCell ⟨L[i].g, j, none⟩ (.int .i64 n)) := chg_set _ _ _ _
  have hx := h.inn L[i] (List.getElem_mem hi)
  obtain ⟨cur, g1, g2, g3, g4, g5⟩ := hx.cells
  refine ⟨⟨h.lo, hc.heap h.box (fun e => ne_of_ty h.box g1 hM e), ?_, ?_, ?_, ?_⟩, hc⟩
  · rw [List.length_set, bkCells_set L i hi (turned L[i] j n) rfl (by simp [bkVal, turned])]
    refine own_chg h.row hc fun g hg e => ?_
    obtain ⟨c, hc'⟩ := own_ty h.row hg
    exact ne_of_ty hc' g1 (by decide) e
  · intro x hx'
    obtain ⟨k, hk, rfl⟩ := List.getElem_of_mem hx'
    rw [List.getElem_set]
    rw [List.length_set] at hk
    split
    · rename_i e; subst e
      refine ⟨by simp [ints, turned], .inr ⟨L[i].g, L[i].c, cur.setIfInBounds j (.int .i64 n), by simp [bkVal, turned], hx.lo, heap_setCell_same _ _ _ _ _ _ g1, by simpa [turned] using g2, g3, by simpa using g4, ?_⟩⟩
      have e1 : (turned L[i] j n).vals.length * 1 = L[i].vals.length := by simp [turned]
      rw [e1, Array.toList_setIfInBounds, List.take_set, g5, turned, ints_set]
    · rename_i e
      refine (h.inn _ (List.getElem_mem hk)).chg hc fun e' => e ?_
      have h5 := (List.getElem_inj (i := k) (j := i) (h₀ := by simpa using hk) (h₁ := by simpa using hi) h.sep).1 (by simpa using e')
      exact h5.symm
  · rw [List.map_set]
    have : L.map (·.g) = (L.map (·.g)).set i (turned L[i] j n).g := by
      apply List.ext_getElem
      · simp
      · intro k h3 h4
        rw [List.getElem_set]; split
        · rename_i h5; subst h5; simp [turned]
        · rfl
    rw [← this]; exact h.sep
  · intro x hx'
    obtain ⟨k, hk, rfl⟩ := List.getElem_of_mem hx'
    rw [List.getElem_set]
    rw [List.length_set] at hk
    split
    · rename_i e; subst e
      have := h.pos _ (List.getElem_mem hi); simpa [turned] using this
    · exact h.pos _ (List.getElem_mem hk)

/-- Where there is such a place it stands so. -/
theorem setOk_out {L : List Bk} {id at_ : Int} (h : setOk L id at_ = true) : ∃ i j : Nat, ∃ hi : i < L.length, id = i ∧ at_ = j ∧ j < L[i].vals.length := by
  unfold setOk at h
  by_cases hin : 0 ≤ id ∧ id < L.length
  · obtain ⟨i, rfl⟩ : ∃ i : Nat, id = i := ⟨id.toNat, by omega⟩
    have hi : i < L.length := by omega
    by_cases hat : 0 ≤ at_ ∧ at_ < L[i].vals.length
    · exact ⟨i, at_.toNat, hi, rfl, by omega, by omega⟩
    · rw [getV_at hi hat] at h; cases h
  · rw [getV_id hin] at h; cases h

theorem set_no {B : Nat} {w : World} {p : Nat} {v : Value} {L : List Bk} (h : MemAt B 64 w p v L) {id at_ : Int} (n : Int) (hs : setOk L id at_ = false) :
    Calls Try.prog 15 #[.pointer (some ⟨p, 0, none⟩), .int .i64 id, .int .i64 at_, .int .i64 n] w fun e w' => e = .returned (.bool false) ∧ w = w' := by
  have HH := has_any h id at_
  rw [show (getV L id at_).2 = setOk L id at_ from rfl, hs] at HH
  clear h hs
  go_enter Try.func15, Try.ntmps15
  go_wp2_with (first | (go_at_call 28; refine HH.mono ?_; rintro e w' ⟨rfl, rfl⟩))
  go_ret
  exact ⟨rfl, rfl⟩

set_option maxRecDepth 100000 in
set_option maxHeartbeats 4000000 in
theorem set_any {B : Nat} {w : World} {p : Nat} {v : Value} {L : List Bk} (h : MemAt B 64 w p v L) (id at_ n : Int) :
    Calls Try.prog 15 #[.pointer (some ⟨p, 0, none⟩), .int .i64 id, .int .i64 at_, .int .i64 n] w fun e w' => e = .returned (.bool (setOk L id at_)) ∧ MemAt B 64 w' p v (setL L id at_ n) ∧ Chg (fun k => ∃ x ∈ L, k = x.g) w w' := by
  have HH := has_any h id at_
  rw [show (getV L id at_).2 = setOk L id at_ from rfl] at HH
  cases hs : setOk L id at_
  case false =>
    rw [setL_no hs]
    refine (set_no h n hs).mono ?_
    rintro _ w' ⟨rfl, rfl⟩
    exact ⟨rfl, h, Chg.refl _ _⟩
  rw [hs] at HH
  obtain ⟨i, j, hi, rfl, rfl, hj⟩ := setOk_out hs
  clear hs
  rcases h.out with ⟨rfl, -⟩ | ⟨o, cap, cur, rfl, ho, hc, hm, hcell⟩
  · simp at hi
  obtain ⟨c1, c2⟩ := hcell i hi
  have c0 := box_cell h.box 0 _ rfl
  have hx := h.inn L[i] (List.getElem_mem hi)
  have HM : Hid (∀ n', MemAt B 64 (w.setCell ⟨L[i].g, j, none⟩ (.int .i64 n')) p (.slice (some ⟨o, 0, none⟩) L.length cap) (L.set i (turned L[i] j n')) ∧ Chg (fun k => k = L[i].g) w (w.setCell ⟨L[i].g, j, none⟩ (.int .i64 n'))) := Lib.hid fun n' => h.set (by decide) hi n'
  rw [setL_yes hi hj]
  have c3 := hx.val j hj
  obtain ⟨cur2, hb2, hl1, hl2, -, -⟩ := hx.cells
  have hlt := box_lt hb2
  have f3 := box_froz hb2 j
  have HE : Hid (setB L[i] j n = turned L[i] j (wrapF L[i].ty n) ∧ L[i] ∈ L) := Lib.hid ⟨rfl, List.getElem_mem hi⟩
  clear hx h ho hcell hb2
  unfold bkVal at c2
  have HG : Hid (∃ x ∈ L, L[i].g = x.g) := Lib.hid ⟨_, List.getElem_mem hi, rfl⟩
  generalize L[i].vals[j] = old at *
  generalize L[i].vals.length = nv at *
  generalize L[i].g = gg at *
  generalize L[i].c = cc at *
  generalize hty : L[i].ty = tt at *
  go_enter Try.func15, Try.ntmps15
  go_wp2_with (first | (go_at_call 28; refine HH.mono ?_; rintro e w' ⟨rfl, rfl⟩))
  go_region_with (go_at_call 29; refine (wrap_any _ _ _).mono ?_; rintro e w' ⟨rfl, rfl⟩)
  all_goals
    go_wp2
    go_ret
    rw [HE.out.1]
    have h1 := HM.out (wrapF tt n)
    refine ⟨rfl, h1.1.kept ((Kept.refl _).alloc _).drew, ((h1.2.mono fun k _ hk => ?_).alloc _).drew⟩
    obtain ⟨x, hx1, hx2⟩ := HG.out
    exact ⟨x, hx1, hk.trans hx2⟩
theorem set_nil (id at_ n : Int) (w : World) : Calls Try.prog 15 #[.pointer none, .int .i64 id, .int .i64 at_, .int .i64 n] w fun e w' => e = .returned (.bool false) ∧ w = w' := by
  go_enter Try.func15, Try.ntmps15
  go_wp2_with (first | (go_at_call 28; refine (has_nil _ _ _).mono ?_; rintro e w' ⟨rfl, rfl⟩))
  go_ret
  exact ⟨rfl, rfl⟩
end Go.Proofs.Ythjnkjekidagiaa.Mem
