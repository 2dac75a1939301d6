/-
  Contracts of the document's answer for package memory: Get, Set. (Of a memory that there is.)
-/
import Derived.Test.YthjnkjekidagiaaMemC
namespace Go.Proofs.Ythjnkjekidagiaa.Mem
open Go.RowKit
open Typ (wrapF rwrap_any)

theorem rget_any {B : Nat} {w : World} {p : Nat} {v : Value} {L : List Bk} (h : MemAt B 55 w p v L) (id at_ : Int) :
    Calls Try.prog 35 #[.pointer (some ⟨p, 0, none⟩), .int .i64 id, .int .i64 at_] w fun e w' => e = .returned (.tuple #[.int .i64 (getV L id at_).1, .bool (getV L id at_).2]) ∧ w = w' := by
  by_cases hin : 0 ≤ id ∧ id < L.length
  case neg =>
    rw [getV_id hin]
    have c0 := box_cell h.box 0 v rfl
    obtain ⟨a, c, rfl⟩ := h.len
    clear h
    rcases (show id < 0 ∨ (0 ≤ id ∧ (L.length : Int) ≤ id) by omega) with g | g
    all_goals
      clear hin
      go_enter Try.func35, Try.ntmps35
      go_wp2
      go_ret2
      exact ⟨rfl, rfl⟩
  obtain ⟨i, rfl⟩ : ∃ i : Nat, id = i := ⟨id.toNat, by omega⟩
  have hi : i < L.length := by omega
  rcases h.out with ⟨rfl, -⟩ | ⟨o, cap, cur, rfl, ho, hc, hm, hcell⟩
  · simp at hi
  obtain ⟨c1, c2⟩ := hcell i hi
  have c0 := box_cell h.box 0 _ rfl
  have hx := h.inn L[i] (List.getElem_mem hi)
  have hcx := hx.cells
  have hval := hx.val
  rcases (show at_ < 0 ∨ (0 ≤ at_ ∧ at_ < L[i].vals.length) ∨ (L[i].vals.length : Int) ≤ at_ by omega) with g | g | g
  case' inr.inl => rw [getV_at hi (by omega)]
  case' inr.inr.inr => rw [getV_at hi (by omega)]
  case' inr.inr.inl =>
    obtain ⟨j, rfl⟩ : ∃ j : Nat, at_ = j := ⟨at_.toNat, by omega⟩
    have hj : j < L[i].vals.length := by omega
    have c3 := hval j hj
    rw [getV_yes hi hj]
    generalize L[i].vals[j] = n at *
  all_goals
    obtain ⟨cur2, -, hl1, hl2, -, -⟩ := hcx
    clear hval hx h ho hcell
    unfold bkVal at c2
    generalize L[i].vals.length = nv at *
    generalize L[i].g = gg at *
    generalize L[i].c = cc at *
    generalize L[i].ty = tt at *
    go_enter Try.func35, Try.ntmps35
    go_wp2
    go_ret2
    exact ⟨rfl, rfl⟩

set_option maxRecDepth 100000 in
set_option maxHeartbeats 4000000 in
theorem rset_any {B : Nat} {w : World} {p : Nat} {v : Value} {L : List Bk} (h : MemAt B 55 w p v L) (id at_ n : Int) :
    Calls Try.prog 20 #[.pointer (some ⟨p, 0, none⟩), .int .i64 id, .int .i64 at_, .int .i64 n] w fun e w' => e = .returned (.bool (setOk L id at_)) ∧ MemAt B 55 w' p v (setL L id at_ n) ∧ Chg (fun k => ∃ x ∈ L, k = x.g) w w' := by
  have HH := rget_any h id at_
  have HM := Lib.hid h
  have he : setOk L id at_ = (getV L id at_).2 := rfl
  by_cases hin : 0 ≤ id ∧ id < L.length
  case neg =>
    rw [setL_no (by rw [he, getV_id hin]), he]
    rw [getV_id hin] at HH ⊢
    clear hin h he
    go_enter Try.func20, Try.ntmps20
    go_wp2_with (first | (go_at_call 35; refine HH.mono ?_; rintro e w' ⟨rfl, rfl⟩))
    go_ret
    exact ⟨rfl, HM.out, Chg.refl _ _⟩
  obtain ⟨i, rfl⟩ : ∃ i : Nat, id = i := ⟨id.toNat, by omega⟩
  have hi : i < L.length := by omega
  by_cases g : 0 ≤ at_ ∧ at_ < L[i].vals.length
  case neg =>
    rw [setL_no (by rw [he, getV_at hi g]), he]
    rw [getV_at hi g] at HH ⊢
    clear hin h he g
    go_enter Try.func20, Try.ntmps20
    go_wp2_with (first | (go_at_call 35; refine HH.mono ?_; rintro e w' ⟨rfl, rfl⟩))
    go_ret
    exact ⟨rfl, HM.out, Chg.refl _ _⟩
  rcases h.out with ⟨rfl, -⟩ | ⟨o, cap, cur, rfl, ho, hc, hm, hcell⟩
  · simp at hi
  obtain ⟨c1, c2⟩ := hcell i hi
  have c0 := box_cell h.box 0 _ rfl
  have hx := h.inn L[i] (List.getElem_mem hi)
  obtain ⟨j, rfl⟩ : ∃ j : Nat, at_ = j := ⟨at_.toNat, by omega⟩
  have hj : j < L[i].vals.length := by omega
  clear HM
  have HM : Hid (∀ n', MemAt B 55 (w.setCell ⟨L[i].g, j, none⟩ (.int .i64 n')) p (.slice (some ⟨o, 0, none⟩) L.length cap) (L.set i (turned L[i] j n')) ∧ Chg (fun k => k = L[i].g) w (w.setCell ⟨L[i].g, j, none⟩ (.int .i64 n'))) := Lib.hid fun n' => h.set (by decide) hi n'
  rw [he, setL_yes hi hj]
  rw [getV_yes hi hj] at HH ⊢
  have c3 := hx.val j hj
  obtain ⟨cur2, hb2, hl1, hl2, -, -⟩ := hx.cells
  have f3 := box_froz hb2 j
  have HE : Hid (setB L[i] j n = turned L[i] j (wrapF L[i].ty n) ∧ L[i] ∈ L) := Lib.hid ⟨rfl, List.getElem_mem hi⟩
  clear hx h ho hcell hb2 he
  unfold bkVal at c2
  have HG : Hid (∃ x ∈ L, L[i].g = x.g) := Lib.hid ⟨_, List.getElem_mem hi, rfl⟩
  generalize L[i].vals[j] = old at *
  generalize L[i].vals.length = nv at *
  generalize L[i].g = gg at *
  generalize L[i].c = cc at *
  generalize hty : L[i].ty = tt at *
  go_enter Try.func20, Try.ntmps20
  go_wp2_with (first | (go_at_call 35; refine HH.mono ?_; rintro e w' ⟨rfl, rfl⟩))
  go_region_with (go_at_call 36; refine (rwrap_any _ _ _).mono ?_; rintro e w' ⟨rfl, rfl⟩)
  all_goals
    go_wp2
    go_ret
    rw [HE.out.1]
    have h1 := HM.out (wrapF tt n)
    refine ⟨rfl, h1.1.drew, (h1.2.mono fun k _ hk => ?_).drew⟩
    obtain ⟨x, hx1, hx2⟩ := HG.out
    exact ⟨x, hx1, hk.trans hx2⟩
end Go.Proofs.Ythjnkjekidagiaa.Mem
