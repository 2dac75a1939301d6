/-
  The contract of param (a name, a type, no size), where the text is one.
-/
import Derived.Test.YtoafcpbpnkfhoaaGreatDoorPrsM
namespace Go.Proofs.YtoafcpbpnkfhoaaGreatDoor.Prs
open Go.RowKit
open Lex (Tok Laid)
attribute [local go_sem] tok0 tok1 tok2
section
variable {B G r d : Nat} {dp : Option Nat} {us : List Tok}
theorem chg_set4 (w : World) (b : Nat) (u0 u1 u2 u3 : Value) : Chg (fun k => k = b) w ((((w.setCell ⟨b, 0, none⟩ u0).setCell ⟨b, 1, none⟩ u1).setCell ⟨b, 2, none⟩ u2).setCell ⟨b, 3, none⟩ u3) :=
  (((chg_set w b 0 u0).then (chg_set _ b 1 u1)).then (chg_set _ b 2 u2)).then (chg_set _ b 3 u3)
set_option maxRecDepth 100000 in
set_option maxHeartbeats 4000000 in
/-- A scalar parameter. -/
theorem param_yes {tn tc tt te : Tok} (w : World) (h : Rd B G w r (tn :: tc :: tt :: te :: us) d dp) (hn : tn.kind = 1) (hc : tc.text = [58]) (ht : readT tt.text ≠ 0) (hb : te.text ≠ [91]) :
    Calls Tryz.prog 50 #[.pointer (some ⟨r, 0, none⟩)] w fun e w' => e = .returned (.agg #[.string ⟨tn.text.toArray⟩, .int .i64 (readT tt.text), .int .i64 0, .int .i64 tn.place]) ∧ Hid (Chg (fun k => k = r) w w' ∧ Rd B G w' r (te :: us) d dp) := by
  have hk0 := (Kept.refl w).alloc (.cells #[.string ⟨#[]⟩, .int .i64 0, .int .i64 0, .int .i64 0] 104)
  have H2 := Lib.hid (name_yes _ (h.kept hk0) hn)
  rw [hn] at H2
  have Hc := Lib.hid hc
  have Ht := Lib.hid ht
  have Hb := Lib.hid hb
  have Hk0 := Lib.hid hk0
  have hB := h.size
  have hrw := h.lt
  have hGw := h.ltG
  have B0 := Lib.hid (heap_alloc_new w (.cells #[.string ⟨#[]⟩, .int .i64 0, .int .i64 0, .int .i64 0] 104))
  clear h hn hc ht hb hk0
  have HTy := Lib.hid (fun (w3 : World) (h3 : Rd B G w3 r (tt :: te :: us) d dp) => type_yes w3 h3 Ht.out)
  clear Ht
  generalize readT tt.text = T at *
  go_enter Tryz.func50, Tryz.ntmps50
  go_upto_region 3 with (go_at_call 24; refine (H2.out).mono ?_; rintro e w2 ⟨rfl, K2⟩)
  have hs2 : w.heap.size + 1 ≤ w2.heap.size := by have a := K2.out.1.size; simp at a; omega
  have KA : Kept w2 ((w2.alloc (.cells #[.int .i64 1, .string ⟨tn.text.toArray⟩, .int .i64 tn.place] 62)).alloc (.cells #[.string ⟨tn.text.toArray⟩, .int .i64 0, .int .i64 0, .int .i64 tn.place] 104)) := ((Kept.refl w2).alloc _).alloc _
  have RA := K2.out.2.kept KA
  have hbA : ((w2.alloc (.cells #[.int .i64 1, .string ⟨tn.text.toArray⟩, .int .i64 tn.place] 62)).alloc (.cells #[.string ⟨tn.text.toArray⟩, .int .i64 0, .int .i64 0, .int .i64 tn.place] 104)).heap[w2.heap.size + 1]? = some (.cells #[.string ⟨tn.text.toArray⟩, .int .i64 0, .int .i64 0, .int .i64 tn.place] 104 (0, 0)) := by
    have := heap_alloc_new (w2.alloc (.cells #[.int .i64 1, .string ⟨tn.text.toArray⟩, .int .i64 tn.place] 62)) (.cells #[.string ⟨tn.text.toArray⟩, .int .i64 0, .int .i64 0, .int .i64 tn.place] 104)
    simpa using this
  have hb0A := (K2.out.1.keep KA).heap B0.out (by omega)
  have cA := ((Chg.of_kept Hk0.out).then K2.out.1).keep KA
  have n1 : w2.heap.size + 1 ≠ r := by omega
  have n2 : w2.heap.size + 1 ≠ G := by omega
  have n3 : B ≤ w2.heap.size + 1 := by omega
  have nb : w.heap.size < w2.heap.size + 1 := by omega
  have HRA := Lib.hid RA
  have HbA := Lib.hid hbA
  have Hb0A := Lib.hid hb0A
  have HcA := Lib.hid cA
  clear KA RA hbA hb0A cA K2 H2 B0
  generalize (w2.alloc (.cells #[.int .i64 1, .string ⟨tn.text.toArray⟩, .int .i64 tn.place] 62)).alloc (.cells #[.string ⟨tn.text.toArray⟩, .int .i64 0, .int .i64 0, .int .i64 tn.place] 104) = wA at *
  generalize w2.heap.size + 1 = b at *
  have H3 := Lib.hid (take_yes wA HRA.out Hc.out)
  go_upto_region 4 with (go_at_call 23; refine (H3.out).mono ?_; rintro e w3 ⟨rfl, K3⟩)
  have H4 := Lib.hid (HTy.out w3 K3.out.2)
  go_upto_region 5 with (go_at_call 25; refine (H4.out).mono ?_; rintro e w4 ⟨rfl, K4⟩; have hb4 := (K3.out.1.then K4.out.1).heap HbA.out n1; have z1 := box_cell hb4 1 _ rfl; have zf := box_froz hb4; have Hb4 := Lib.hid hb4; clear hb4)
  have R5 := Lib.hid (K4.out.2.setb n3 n1 n2 1 (.int .i64 T))
  have H5 := Lib.hid (sizeIfAny_no _ R5.out Hb.out)
  have Hb5 := Lib.hid (heap_setCell_same _ _ 1 _ _ (.int .i64 T) Hb4.out)
  go_upto_region 6 with (go_at_call 26; refine (H5.out).mono ?_; rintro e w5 ⟨rfl, K5⟩; have hb6 := (Below.block K5.out _ (box_lt Hb5.out)).trans Hb5.out; have x2 := box_cell hb6 2 _ rfl; have xf := box_froz hb6; have Hb6 := Lib.hid hb6; clear hb6)
  have R6 := Lib.hid ((R5.out.kept K5.out).setb n3 n1 n2 2 (.int .i64 0))
  have Hb7 := Lib.hid (heap_setCell_same _ _ 2 _ _ (.int .i64 0) Hb6.out)
  have c39 := ((((K3.out.1.then K4.out.1).mono (T := fun k => k = r ∨ k = b) (fun _ _ e => .inl e)).trans (chg_set _ b 1 (.int .i64 T)) (fun _ _ e => .inr e)).keep K5.out).trans (chg_set _ b 2 (.int .i64 0)) (fun _ _ e => .inr e)
  have Hb09 := Lib.hid (c39.heap Hb0A.out (by omega))
  have C39 := Lib.hid c39
  clear c39
  generalize w5.setCell ⟨b, 2, none⟩ (.int .i64 0) = w8 at *
  have hb := Hb7.out
  have hb0 := Hb09.out
  have o0 := box_cell hb 0 _ rfl
  have o1 := box_cell hb 1 _ rfl
  have o2 := box_cell hb 2 _ rfl
  have o3 := box_cell hb 3 _ rfl
  have l0 := box_cell hb0 0 _ rfl
  have l1 := box_cell hb0 1 _ rfl
  have l2 := box_cell hb0 2 _ rfl
  have l3 := box_cell hb0 3 _ rfl
  have lf := box_froz hb0
  clear hb hb0
  go_wp2
  refine bodyPost_ret (v := .agg #[.string ⟨tn.text.toArray⟩, .int .i64 T, .int .i64 0, .int .i64 tn.place]) ?_ rfl ⟨rfl, Lib.hid ?_⟩
  · simp [results, Tryz.results50, go_sem, l0, l1, l2, l3]
  have c5 := chg_set4 w8 w.heap.size (.string ⟨tn.text.toArray⟩) (.int .i64 T) (.int .i64 0) (.int .i64 tn.place)
  refine ⟨(HcA.out.trans C39.out (fun i hi e => by omega)).trans c5 (fun i hi e => by omega), R6.out.chg c5 (fun k e => by subst e; exact ⟨hB, by omega, by omega⟩)⟩
end
end Go.Proofs.YtoafcpbpnkfhoaaGreatDoor.Prs
