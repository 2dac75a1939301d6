/-
  Contracts of package memory's methods New, Len, has, Get: of a memory that lies in the cells (MemAt), and of none. (Fitted to the struct's one field and the methods there, has.)
-/
import Derived.Test.YthjnkjekidagiaaMemA
namespace Go.Proofs.Ythjnkjekidagiaa.Mem
open Go.RowKit

theorem new_any (w : World) : Calls Try.prog 12 #[] w fun e w' => e = .returned (.pointer (some ⟨w.heap.size, 0, none⟩)) ∧ w' = w.alloc (.cells #[.slice none 0 0] 64) := by
  go_enter Try.func12, Try.ntmps12
  go_wp2
  go_ret
  exact ⟨rfl, rfl⟩
theorem new_at (w : World) (B : Nat) (h : B ≤ w.heap.size) : MemAt B 64 (w.alloc (.cells #[.slice none 0 0] 64)) w.heap.size (.slice none 0 0) [] :=
  ⟨h, heap_alloc_new _ _, ⟨rfl, .inl ⟨rfl, rfl⟩⟩, (by intro x hx; cases hx), List.nodup_nil, (by intro x hx; cases hx)⟩

theorem len_any {B : Nat} {w : World} {p : Nat} {v : Value} {L : List Bk} (h : MemAt B 64 w p v L) :
    Calls Try.prog 21 #[.pointer (some ⟨p, 0, none⟩)] w fun e w' => e = .returned (.int .i64 L.length) ∧ w = w' := by
  have c0 := box_cell h.box 0 v rfl
  obtain ⟨a, c, rfl⟩ := h.len
  clear h
  go_enter Try.func21, Try.ntmps21
  go_wp2
  go_ret
  exact ⟨rfl, rfl⟩

theorem len_nil (w : World) : Calls Try.prog 21 #[.pointer none] w fun e w' => e = .returned (.int .i64 0) ∧ w = w' := by
  go_enter Try.func21, Try.ntmps21
  go_wp2
  go_ret
  exact ⟨rfl, rfl⟩
theorem there_any {B : Nat} {w : World} {p : Nat} {v : Value} {L : List Bk} (h : MemAt B 64 w p v L) (id : Int) :
    Calls Try.prog 41 #[.pointer (some ⟨p, 0, none⟩), .int .i64 id] w fun e w' => e = .returned (.bool (decide (0 ≤ id ∧ id < L.length))) ∧ w = w' := by
  have HL := len_any h
  obtain ⟨a, c, rfl⟩ := h.len
  clear h
  rcases (show id < 0 ∨ (0 ≤ id ∧ id < L.length) ∨ (0 ≤ id ∧ (L.length : Int) ≤ id) by omega) with g | g | g
  case' inl => have e0 : decide (0 ≤ id ∧ id < (L.length : Int)) = false := decide_eq_false (by omega)
  case' inr.inl => have e0 : decide (0 ≤ id ∧ id < (L.length : Int)) = true := decide_eq_true (by omega)
  case' inr.inr => have e0 : decide (0 ≤ id ∧ id < (L.length : Int)) = false := decide_eq_false (by omega)
  all_goals
    rw [e0]; clear e0
    go_enter Try.func41, Try.ntmps41
    go_wp2_with (first | (go_at_call 21; refine HL.mono ?_; rintro e w' ⟨rfl, rfl⟩))
    go_ret
    first | exact ⟨rfl, rfl⟩ | exact ⟨ret_bool (decide_eq_false (by omega)), rfl⟩ | exact ⟨ret_bool (decide_eq_true (by omega)), rfl⟩
theorem there_nil (id : Int) (w : World) : Calls Try.prog 41 #[.pointer none, .int .i64 id] w fun e w' => e = .returned (.bool false) ∧ w = w' := by
  rcases (show id < 0 ∨ 0 ≤ id by omega) with g | g
  all_goals
    go_enter Try.func41, Try.ntmps41
    go_wp2_with (first | (go_at_call 21; refine (len_nil _).mono ?_; rintro e w' ⟨rfl, rfl⟩))
    go_ret
    first | exact ⟨rfl, rfl⟩ | exact ⟨ret_bool (decide_eq_false (by omega)), rfl⟩

/-- What Get answers. -/
def getV (L : List Bk) (id at_ : Int) : Int × Bool :=
  if 0 ≤ id ∧ 0 ≤ at_ then match L[id.toNat]? with
    | some x => match x.vals[at_.toNat]? with
      | some n => (n, true)
      | none => (0, false)
    | none => (0, false)
  else (0, false)

theorem getV_id {L : List Bk} {id at_ : Int} (h : ¬ (0 ≤ id ∧ id < L.length)) : getV L id at_ = (0, false) := by
  unfold getV; split
  · have : L[id.toNat]? = none := List.getElem?_eq_none (by omega)
    rw [this]
  · rfl
theorem getV_at {L : List Bk} {i : Nat} {at_ : Int} (hi : i < L.length) (h : ¬ (0 ≤ at_ ∧ at_ < L[i].vals.length)) : getV L i at_ = (0, false) := by
  unfold getV; split
  · have e : L[(i : Int).toNat]? = some L[i] := by simp [hi]
    have : L[i].vals[at_.toNat]? = none := List.getElem?_eq_none (by omega)
    rw [e]; simp only [this]
  · rfl
theorem getV_yes {L : List Bk} {i j : Nat} (hi : i < L.length) (hj : j < L[i].vals.length) : getV L i j = (L[i].vals[j], true) := by
  unfold getV
  have e : L[(i : Int).toNat]? = some L[i] := by simp [hi]
  have e2 : L[i].vals[(j : Int).toNat]? = some L[i].vals[j] := by simp [hj]
  rw [if_pos ⟨by omega, by omega⟩, e]; simp only [e2]

theorem has_any {B : Nat} {w : World} {p : Nat} {v : Value} {L : List Bk} (h : MemAt B 64 w p v L) (id at_ : Int) :
    Calls Try.prog 28 #[.pointer (some ⟨p, 0, none⟩), .int .i64 id, .int .i64 at_] w fun e w' => e = .returned (.bool (getV L id at_).2) ∧ w = w' := by
  have HT := there_any h id
  by_cases hin : 0 ≤ id ∧ id < L.length
  case neg =>
    have hd : decide (0 ≤ id ∧ id < (L.length : Int)) = false := decide_eq_false hin
    rw [hd] at HT
    rw [getV_id hin]
    clear hd hin h
    go_enter Try.func28, Try.ntmps28
    go_wp2_with (first | (go_at_call 41; refine HT.mono ?_; rintro e w' ⟨rfl, rfl⟩))
    go_ret
    exact ⟨rfl, rfl⟩
  have hd : decide (0 ≤ id ∧ id < (L.length : Int)) = true := decide_eq_true hin
  rw [hd] at HT
  clear hd
  obtain ⟨i, rfl⟩ : ∃ i : Nat, id = i := ⟨id.toNat, by omega⟩
  have hi : i < L.length := by omega
  rcases h.out with ⟨rfl, -⟩ | ⟨o, cap, cur, rfl, ho, hc, hm, hcell⟩
  · simp at hi
  obtain ⟨c1, c2⟩ := hcell i hi
  have c0 := box_cell h.box 0 _ rfl
  have hcx := (h.inn L[i] (List.getElem_mem hi)).cells
  rcases (show at_ < 0 ∨ (0 ≤ at_ ∧ at_ < L[i].vals.length) ∨ (0 ≤ at_ ∧ (L[i].vals.length : Int) ≤ at_) by omega) with g | g | g
  case' inr.inl => rw [getV_at hi (by omega)]
  case' inr.inr.inr => rw [getV_at hi (by omega)]
  case' inr.inr.inl =>
    rw [show (getV L i at_).2 = true by
      obtain ⟨j, rfl⟩ : ∃ j : Nat, at_ = j := ⟨at_.toNat, by omega⟩
      rw [getV_yes hi (by omega)]]
  all_goals
    obtain ⟨cur2, -, hl1, hl2, -, -⟩ := hcx
    clear h ho hcell
    unfold bkVal at c2
    generalize L[i].vals.length = nv at *
    generalize L[i].g = gg at *
    generalize L[i].c = cc at *
    generalize L[i].ty = tt at *
    go_enter Try.func28, Try.ntmps28
    go_wp2_with (first | (go_at_call 41; refine HT.mono ?_; rintro e w' ⟨rfl, rfl⟩))
    go_ret
    first | exact ⟨rfl, rfl⟩ | exact ⟨ret_bool (decide_eq_false (by omega)), rfl⟩ | exact ⟨ret_bool (decide_eq_true (by omega)), rfl⟩
theorem has_nil (id at_ : Int) (w : World) : Calls Try.prog 28 #[.pointer none, .int .i64 id, .int .i64 at_] w fun e w' => e = .returned (.bool false) ∧ w = w' := by
  go_enter Try.func28, Try.ntmps28
  go_wp2_with (first | (go_at_call 41; refine (there_nil _ _).mono ?_; rintro e w' ⟨rfl, rfl⟩))
  go_ret
  exact ⟨rfl, rfl⟩

theorem get_any {B : Nat} {w : World} {p : Nat} {v : Value} {L : List Bk} (h : MemAt B 64 w p v L) (id at_ : Int) :
    Calls Try.prog 101 #[.pointer (some ⟨p, 0, none⟩), .int .i64 id, .int .i64 at_] w fun e w' => e = .returned (.tuple #[.int .i64 (getV L id at_).1, .bool (getV L id at_).2]) ∧ w = w' := by
  have HH := has_any h id at_
  have hno : (getV L id at_).2 = false → getV L id at_ = (0, false) := by
    intro hf
    by_cases hin : 0 ≤ id ∧ id < L.length
    · obtain ⟨i, rfl⟩ : ∃ i : Nat, id = i := ⟨id.toNat, by omega⟩
      have hi : i < L.length := by omega
      by_cases hat : 0 ≤ at_ ∧ at_ < L[i].vals.length
      · obtain ⟨j, rfl⟩ : ∃ j : Nat, at_ = j := ⟨at_.toNat, by omega⟩
        rw [getV_yes hi (by omega)] at hf; cases hf
      · exact getV_at hi hat
    · exact getV_id hin
  cases hv : (getV L id at_).2
  case false =>
    rw [hno hv]
    rw [hv] at HH
    clear hno hv h
    go_enter Try.func101, Try.ntmps101
    go_wp2_with (first | (go_at_call 28; refine HH.mono ?_; rintro e w' ⟨rfl, rfl⟩))
    go_ret2
    exact ⟨rfl, rfl⟩
  rw [hv] at HH
  obtain ⟨i, rfl, hi⟩ : ∃ i : Nat, id = i ∧ i < L.length := by
    by_cases hin : 0 ≤ id ∧ id < L.length
    · exact ⟨id.toNat, by omega, by omega⟩
    · rw [getV_id hin] at hv; cases hv
  obtain ⟨j, rfl, hj⟩ : ∃ j : Nat, at_ = j ∧ j < L[i].vals.length := by
    by_cases hin : 0 ≤ at_ ∧ at_ < L[i].vals.length
    · exact ⟨at_.toNat, by omega, by omega⟩
    · rw [getV_at hi hin] at hv; cases hv
  rw [getV_yes hi hj]
  rcases h.out with ⟨rfl, -⟩ | ⟨o, cap, cur, rfl, ho, hc, hm, hcell⟩
  · simp at hi
  obtain ⟨c1, c2⟩ := hcell i hi
  have c0 := box_cell h.box 0 _ rfl
  have hx := h.inn L[i] (List.getElem_mem hi)
  obtain ⟨cur2, -, hl1, hl2, -, -⟩ := hx.cells
  have c3 := hx.val j hj
  clear hno hv hx h ho hcell
  unfold bkVal at c2
  generalize L[i].vals[j] = n at *
  generalize L[i].vals.length = nv at *
  generalize L[i].g = gg at *
  generalize L[i].c = cc at *
  generalize L[i].ty = tt at *
  go_enter Try.func101, Try.ntmps101
  go_wp2_with (first | (go_at_call 28; refine HH.mono ?_; rintro e w' ⟨rfl, rfl⟩))
  go_ret2
  exact ⟨rfl, rfl⟩
theorem get_nil (id at_ : Int) (w : World) : Calls Try.prog 101 #[.pointer none, .int .i64 id, .int .i64 at_] w fun e w' => e = .returned (.tuple #[.int .i64 0, .bool false]) ∧ w = w' := by
  go_enter Try.func101, Try.ntmps101
  go_wp2_with (first | (go_at_call 28; refine (has_nil _ _ _).mono ?_; rintro e w' ⟨rfl, rfl⟩))
  go_ret2
  exact ⟨rfl, rfl⟩
end Go.Proofs.Ythjnkjekidagiaa.Mem
