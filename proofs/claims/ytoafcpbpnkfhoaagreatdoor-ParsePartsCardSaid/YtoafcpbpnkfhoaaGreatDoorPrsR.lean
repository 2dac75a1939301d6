/-
  Statements in memory; contracts of bare and leave (without an expression).
-/
import Derived.Test.YtoafcpbpnkfhoaaGreatDoorPrsW
namespace Go.Proofs.YtoafcpbpnkfhoaaGreatDoor.Prs
open Go.RowKit
open Lex (Tok Laid)
attribute [local go_sem] tok0 tok1 tok2

theorem chg_set15 (w : World) (b : Nat) (u0 u1 u2 u3 u4 u5 u6 u7 u8 u9 u10 u11 u12 u13 u14 : Value) : Chg (fun k => k = b) w (((((((((((((((w.setCell ⟨b, 0, none⟩ (u0)).setCell ⟨b, 1, none⟩ (u1)).setCell ⟨b, 2, none⟩ (u2)).setCell ⟨b, 3, none⟩ (u3)).setCell ⟨b, 4, none⟩ (u4)).setCell ⟨b, 5, none⟩ (u5)).setCell ⟨b, 6, none⟩ (u6)).setCell ⟨b, 7, none⟩ (u7)).setCell ⟨b, 8, none⟩ (u8)).setCell ⟨b, 9, none⟩ (u9)).setCell ⟨b, 10, none⟩ (u10)).setCell ⟨b, 11, none⟩ (u11)).setCell ⟨b, 12, none⟩ (u12)).setCell ⟨b, 13, none⟩ (u13)).setCell ⟨b, 14, none⟩ (u14)) :=
  (((((((((((((((chg_set w b 0 u0).then (chg_set _ b 1 u1)).then (chg_set _ b 2 u2)).then (chg_set _ b 3 u3)).then (chg_set _ b 4 u4)).then (chg_set _ b 5 u5)).then (chg_set _ b 6 u6)).then (chg_set _ b 7 u7)).then (chg_set _ b 8 u8)).then (chg_set _ b 9 u9)).then (chg_set _ b 10 u10)).then (chg_set _ b 11 u11)).then (chg_set _ b 12 u12)).then (chg_set _ b 13 u13)).then (chg_set _ b 14 u14))
section
variable {B G r d : Nat} {dp : Option Nat} {us : List Tok}
set_option maxRecDepth 100000 in
set_option maxHeartbeats 4000000 in
theorem bare_any {t s : Tok} {k : Int} (w : World) (h : Rd B G w r (t :: s :: us) d dp) (hs : s.text = [59]) : Calls Tryz.prog 76 #[.pointer (some ⟨r, 0, none⟩), .int .i64 k] w fun e w' => e = .returned (.agg #[.int .i64 k, .int .i64 0, .string ⟨#[]⟩, .int .i64 0, .int .i64 0, .slice none 0 0, .slice none 0 0, .bool false, .string ⟨#[]⟩, .slice none 0 0, .slice none 0 0, .slice none 0 0, .slice none 0 0, .slice none 0 0, .slice none 0 0]) ∧ Hid (Chg (fun k => k = r) w w' ∧ Rd B G w' r us d dp) := by
  have hk0 := (Kept.refl w).alloc (.cells #[.int .i64 0, .int .i64 0, .string ⟨#[]⟩, .int .i64 0, .int .i64 0, .slice none 0 0, .slice none 0 0, .bool false, .string ⟨#[]⟩, .slice none 0 0, .slice none 0 0, .slice none 0 0, .slice none 0 0, .slice none 0 0, .slice none 0 0] 43)
  have H1 := Lib.hid (next_any _ (h.kept hk0))
  have Hs := Lib.hid hs
  have Hk0 := Lib.hid hk0
  have hB := h.size
  have hrw := h.lt
  have hGw := h.ltG
  have B0 := Lib.hid (heap_alloc_new w (.cells #[.int .i64 0, .int .i64 0, .string ⟨#[]⟩, .int .i64 0, .int .i64 0, .slice none 0 0, .slice none 0 0, .bool false, .string ⟨#[]⟩, .slice none 0 0, .slice none 0 0, .slice none 0 0, .slice none 0 0, .slice none 0 0, .slice none 0 0] 43))
  clear h hs hk0
  go_enter Tryz.func76, Tryz.ntmps76
  go_upto_region 2 with (go_at_call 46; refine (H1.out).mono ?_; rintro e w1 ⟨rfl, K1⟩)
  have H2 := Lib.hid (take_yes _ K1.out.2 Hs.out)
  go_upto_region 3 with (go_at_call 23; refine (H2.out).mono ?_; rintro e w2 ⟨rfl, K2⟩)
  have hb := (K1.out.1.then K2.out.1).heap B0.out (by omega)
  have l0 := box_cell hb 0 _ rfl
  have l1 := box_cell hb 1 _ rfl
  have l2 := box_cell hb 2 _ rfl
  have l3 := box_cell hb 3 _ rfl
  have l4 := box_cell hb 4 _ rfl
  have l5 := box_cell hb 5 _ rfl
  have l6 := box_cell hb 6 _ rfl
  have l7 := box_cell hb 7 _ rfl
  have l8 := box_cell hb 8 _ rfl
  have l9 := box_cell hb 9 _ rfl
  have l10 := box_cell hb 10 _ rfl
  have l11 := box_cell hb 11 _ rfl
  have l12 := box_cell hb 12 _ rfl
  have l13 := box_cell hb 13 _ rfl
  have l14 := box_cell hb 14 _ rfl
  have lf := box_froz hb
  clear hb
  go_wp2
  refine bodyPost_ret (v := .agg #[.int .i64 k, .int .i64 0, .string ⟨#[]⟩, .int .i64 0, .int .i64 0, .slice none 0 0, .slice none 0 0, .bool false, .string ⟨#[]⟩, .slice none 0 0, .slice none 0 0, .slice none 0 0, .slice none 0 0, .slice none 0 0, .slice none 0 0]) ?_ rfl ⟨rfl, Lib.hid ?_⟩
  · simp [results, Tryz.results76, go_sem, l0, l1, l2, l3, l4, l5, l6, l7, l8, l9, l10, l11, l12, l13, l14]
  have c5 := chg_set15 w2 w.heap.size (.int .i64 k) (.int .i64 0) (.string ⟨#[]⟩) (.int .i64 0) (.int .i64 0) (.slice none 0 0) (.slice none 0 0) (.bool false) (.string ⟨#[]⟩) (.slice none 0 0) (.slice none 0 0) (.slice none 0 0) (.slice none 0 0) (.slice none 0 0) (.slice none 0 0)
  exact ⟨(((Chg.of_kept Hk0.out).then K1.out.1).then K2.out.1).trans c5 (fun i hi e => by omega), K2.out.2.chg c5 (fun k e => by subst e; exact ⟨hB, by omega, by omega⟩)⟩
set_option maxRecDepth 100000 in
set_option maxHeartbeats 4000000 in
theorem leave_none {t s : Tok} (w : World) (h : Rd B G w r (t :: s :: us) d dp) (ht : t.text = [114, 101, 116, 117, 114, 110]) (hs : s.text = [59]) : Calls Tryz.prog 77 #[.pointer (some ⟨r, 0, none⟩)] w fun e w' => e = .returned (.agg #[.int .i64 10, .int .i64 0, .string ⟨#[]⟩, .int .i64 0, .int .i64 0, .slice none 0 0, .slice none 0 0, .bool false, .string ⟨#[]⟩, .slice none 0 0, .slice none 0 0, .slice none 0 0, .slice none 0 0, .slice none 0 0, .slice none 0 0]) ∧ Hid (Chg (fun k => k = r) w w' ∧ Rd B G w' r us d dp) := by
  have hk0 := (Kept.refl w).alloc (.cells #[.int .i64 0, .int .i64 0, .string ⟨#[]⟩, .int .i64 0, .int .i64 0, .slice none 0 0, .slice none 0 0, .bool false, .string ⟨#[]⟩, .slice none 0 0, .slice none 0 0, .slice none 0 0, .slice none 0 0, .slice none 0 0, .slice none 0 0] 43)
  have H1 := Lib.hid (take_yes _ (h.kept hk0) ht)
  have Hs := Lib.hid hs
  have Hk0 := Lib.hid hk0
  have hB := h.size
  have hrw := h.lt
  have hGw := h.ltG
  have B0 := Lib.hid (heap_alloc_new w (.cells #[.int .i64 0, .int .i64 0, .string ⟨#[]⟩, .int .i64 0, .int .i64 0, .slice none 0 0, .slice none 0 0, .bool false, .string ⟨#[]⟩, .slice none 0 0, .slice none 0 0, .slice none 0 0, .slice none 0 0, .slice none 0 0, .slice none 0 0] 43))
  clear h hs hk0 ht
  go_enter Tryz.func77, Tryz.ntmps77
  go_upto_region 3 with (go_at_call 23; refine (H1.out).mono ?_; rintro e w1 ⟨rfl, K1⟩)
  have kA := (Kept.refl w1).alloc (.cells #[.int .i64 10, .int .i64 0, .string ⟨#[]⟩, .int .i64 0, .int .i64 0, .slice none 0 0, .slice none 0 0, .bool false, .string ⟨#[]⟩, .slice none 0 0, .slice none 0 0, .slice none 0 0, .slice none 0 0, .slice none 0 0, .slice none 0 0] 43)
  have RA := K1.out.2.kept kA
  have H2 := Lib.hid (is_yes _ RA Hs.out)
  have HRA := Lib.hid RA
  have hs1 : w.heap.size < w1.heap.size := by have := K1.out.1.size; simp at this; omega
  have B1 := Lib.hid (heap_alloc_new w1 (.cells #[.int .i64 10, .int .i64 0, .string ⟨#[]⟩, .int .i64 0, .int .i64 0, .slice none 0 0, .slice none 0 0, .bool false, .string ⟨#[]⟩, .slice none 0 0, .slice none 0 0, .slice none 0 0, .slice none 0 0, .slice none 0 0, .slice none 0 0] 43))
  have B0A := Lib.hid ((K1.out.1.keep kA).heap B0.out (by omega))
  have HkA := Lib.hid kA
  clear RA kA
  go_upto_region 5 with (go_at_call 45; refine (H2.out).mono ?_; rintro e w2 ⟨rfl, K2⟩)
  have H3 := Lib.hid (take_yes _ (HRA.out.kept K2.out) Hs.out)
  go_upto_region 6 with (go_at_call 23; refine (H3.out).mono ?_; rintro e w3 ⟨rfl, K3⟩)
  have c13 := (Chg.of_kept (S := fun k => k = r) K2.out).then K3.out.1
  have hb := c13.heap B0A.out (by omega)
  have hc := c13.heap B1.out (by omega)
  have l0 := box_cell hb 0 _ rfl
  have l1 := box_cell hb 1 _ rfl
  have l2 := box_cell hb 2 _ rfl
  have l3 := box_cell hb 3 _ rfl
  have l4 := box_cell hb 4 _ rfl
  have l5 := box_cell hb 5 _ rfl
  have l6 := box_cell hb 6 _ rfl
  have l7 := box_cell hb 7 _ rfl
  have l8 := box_cell hb 8 _ rfl
  have l9 := box_cell hb 9 _ rfl
  have l10 := box_cell hb 10 _ rfl
  have l11 := box_cell hb 11 _ rfl
  have l12 := box_cell hb 12 _ rfl
  have l13 := box_cell hb 13 _ rfl
  have l14 := box_cell hb 14 _ rfl
  have o0 := box_cell hc 0 _ rfl
  have o1 := box_cell hc 1 _ rfl
  have o2 := box_cell hc 2 _ rfl
  have o3 := box_cell hc 3 _ rfl
  have o4 := box_cell hc 4 _ rfl
  have o5 := box_cell hc 5 _ rfl
  have o6 := box_cell hc 6 _ rfl
  have o7 := box_cell hc 7 _ rfl
  have o8 := box_cell hc 8 _ rfl
  have o9 := box_cell hc 9 _ rfl
  have o10 := box_cell hc 10 _ rfl
  have o11 := box_cell hc 11 _ rfl
  have o12 := box_cell hc 12 _ rfl
  have o13 := box_cell hc 13 _ rfl
  have o14 := box_cell hc 14 _ rfl
  have lf := box_froz hb
  clear hb hc
  go_wp2
  refine bodyPost_ret (v := .agg #[.int .i64 10, .int .i64 0, .string ⟨#[]⟩, .int .i64 0, .int .i64 0, .slice none 0 0, .slice none 0 0, .bool false, .string ⟨#[]⟩, .slice none 0 0, .slice none 0 0, .slice none 0 0, .slice none 0 0, .slice none 0 0, .slice none 0 0]) ?_ rfl ⟨rfl, Lib.hid ?_⟩
  · simp [results, Tryz.results77, go_sem, l0, l1, l2, l3, l4, l5, l6, l7, l8, l9, l10, l11, l12, l13, l14]
  have c5 := chg_set15 w3 w.heap.size (.int .i64 10) (.int .i64 0) (.string ⟨#[]⟩) (.int .i64 0) (.int .i64 0) (.slice none 0 0) (.slice none 0 0) (.bool false) (.string ⟨#[]⟩) (.slice none 0 0) (.slice none 0 0) (.slice none 0 0) (.slice none 0 0) (.slice none 0 0) (.slice none 0 0)
  exact ⟨((((Chg.of_kept Hk0.out).then K1.out.1).keep HkA.out).then c13).trans c5 (fun i hi e => by omega), K3.out.2.chg c5 (fun k e => by subst e; exact ⟨hB, by omega, by omega⟩)⟩
end
end Go.Proofs.YtoafcpbpnkfhoaaGreatDoor.Prs
