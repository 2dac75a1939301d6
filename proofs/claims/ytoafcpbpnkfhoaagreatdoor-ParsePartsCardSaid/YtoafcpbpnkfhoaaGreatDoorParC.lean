/-
  The contract of clause, where the text is one.
-/
import Derived.Test.YtoafcpbpnkfhoaaGreatDoorPrsM
namespace Go.Proofs.YtoafcpbpnkfhoaaGreatDoor.Prs
open Go.RowKit
open Lex (Tok Laid)
attribute [local go_sem] tok0 tok1 tok2
/-- A clause: the word ahead, a condition, ';'. -/
def clauseF (f : Nat) (us : List Tok) (d : Nat) (dp : Option Nat) : Option (List Tok × Option Nat) :=
  match us with
  | _ :: vs =>
    match condF f vs d dp with
    | .ok (ts :: us') dp' _ => if ts.text = [59] then some (us', dp') else none
    | _ => none
  | [] => none
section
variable {B G r d : Nat} {dp : Option Nat}
set_option maxRecDepth 100000 in
set_option maxHeartbeats 4000000 in
theorem clause_said {f : Nat} {us us' : List Tok} {dp' : Option Nat} (w : World) (h : Rd B G w r us d dp) (hs : clauseF f us d dp = some (us', dp')) :
    Calls Tryz.prog 51 #[.pointer (some ⟨r, 0, none⟩)] w fun e w' => ∃ (p : Int) (a : Option Addr) (l c : Nat), e = .returned (.agg #[.int .i64 p, .slice a l c]) ∧ Hid (Chg (fun k => k = r) w w' ∧ Rd B G w' r us' d dp' ∧ us'.length + 2 ≤ us.length) := by
  unfold clauseF at hs
  split at hs
  case h_2 => cases hs
  rename_i t vs
  split at hs
  case h_2 => cases hs
  rename_i ts us1 dp1 l hcond
  split at hs
  case isFalse => cases hs
  rename_i hts
  simp only [Option.some.injEq, Prod.mk.injEq] at hs
  obtain ⟨rfl, rfl⟩ := hs
  have hk0 := (Kept.refl w).alloc (.cells #[.int .i64 0, .slice none 0 0] 107)
  have H1 := Lib.hid (next_any _ (h.kept hk0))
  have B0 := Lib.hid (heap_alloc_new w (.cells #[.int .i64 0, .slice none 0 0] 107))
  have Hk0 := Lib.hid hk0
  have Hc := Lib.hid hcond
  have Hts := Lib.hid hts
  have hB := h.size
  have hrw := h.lt
  have hGw := h.ltG
  clear h hk0 hcond hts
  go_enter Tryz.func51, Tryz.ntmps51
  go_upto_region 2 with (go_at_call 46; refine (H1.out).mono ?_; rintro e w2 ⟨rfl, K2⟩)
  have hs2 : w.heap.size + 1 ≤ w2.heap.size := by have a := K2.out.1.size; simp at a; omega
  have KA : Kept w2 (w2.alloc (.cells #[.int .i64 t.place, .slice none 0 0] 107)) := (Kept.refl w2).alloc _
  have HRA := Lib.hid (K2.out.2.kept KA)
  have HbA := Lib.hid (heap_alloc_new w2 (.cells #[.int .i64 t.place, .slice none 0 0] 107))
  have Hb0A := Lib.hid ((K2.out.1.keep KA).heap B0.out (by omega))
  have HcA := Lib.hid (((Chg.of_kept Hk0.out).then K2.out.1).keep KA)
  have n1 : w2.heap.size ≠ r := by omega
  have n2 : w2.heap.size ≠ G := by omega
  have n3 : B ≤ w2.heap.size := by omega
  have nb : w.heap.size < w2.heap.size := by omega
  clear KA K2 H1 B0 hs2
  generalize w2.alloc (.cells #[.int .i64 t.place, .slice none 0 0] 107) = wA at *
  generalize w2.heap.size = b at *
  have H3 := cond_any (f := f) wA HRA.out (by rw [Hc.out]; intro e; cases e)
  rw [Hc.out] at H3
  have H3 := Lib.hid H3
  go_upto_region 3 with (go_at_call 64; refine (H3.out).mono ?_; rintro e w4 ⟨x, rfl, K4⟩; obtain ⟨_, hx, -⟩ := K4.out.2.2.1; obtain ⟨a0, c0, hx0⟩ := own_slice hx; clear hx; subst hx0; have hb4 := K4.out.1.heap HbA.out n1; have z1 := box_cell hb4 1 _ rfl; have zf := box_froz hb4; have Hb4 := Lib.hid hb4; clear hb4)
  have R5 := Lib.hid (K4.out.2.1.setb n3 n1 n2 1 (.slice a0 l.length c0))
  have H5 := Lib.hid (take_yes _ R5.out Hts.out)
  have Hb5 := Lib.hid (heap_setCell_same _ _ 1 _ _ (.slice a0 l.length c0) Hb4.out)
  have c39 := (K4.out.1.mono (T := fun k => k = r ∨ k = b) (fun _ _ e => .inl e)).trans (chg_set _ b 1 (.slice a0 l.length c0)) (fun _ _ e => .inr e)
  have Hb05 := Lib.hid (c39.heap Hb0A.out (by omega))
  have C39 := Lib.hid c39
  have hlen := K4.out.2.2.2
  simp only [List.length_cons] at hlen
  clear c39
  go_upto_region 4 with (go_at_call 23; refine (H5.out).mono ?_; rintro e w8 ⟨rfl, K8⟩)
  have hb := K8.out.1.heap Hb5.out n1
  have hb0 := K8.out.1.heap Hb05.out (by omega)
  have o0 := box_cell hb 0 _ rfl
  have o1 := box_cell hb 1 _ rfl
  have l0 := box_cell hb0 0 _ rfl
  have l1 := box_cell hb0 1 _ rfl
  have lf := box_froz hb0
  clear hb hb0
  go_wp2
  refine bodyPost_ret (v := .agg #[.int .i64 t.place, .slice a0 l.length c0]) ?_ rfl ⟨_, _, _, _, rfl, Lib.hid ?_⟩
  · simp [results, Tryz.results51, go_sem, l0, l1]
  have c5 := (chg_set w8 w.heap.size 0 (.int .i64 t.place)).then (chg_set _ w.heap.size 1 (.slice a0 l.length c0))
  exact ⟨((HcA.out.trans C39.out (fun i hi e => by omega)).then K8.out.1).trans c5 (fun i hi e => by omega), K8.out.2.chg c5 (fun k e => by subst e; exact ⟨hB, by omega, by omega⟩), by first | omega | (simp; omega)⟩
end
end Go.Proofs.YtoafcpbpnkfhoaaGreatDoor.Prs
