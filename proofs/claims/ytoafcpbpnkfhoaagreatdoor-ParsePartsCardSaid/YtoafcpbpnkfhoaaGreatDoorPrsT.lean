/-
  Contracts of stmtByWord and stmt.
-/
import Derived.Test.YtoafcpbpnkfhoaaGreatDoorPrsS
namespace Go.Proofs.YtoafcpbpnkfhoaaGreatDoor.Prs
open Go.RowKit
open Lex (Tok Laid)
attribute [local go_sem] tok0 tok1 tok2

set_option maxRecDepth 100000 in
set_option maxHeartbeats 8000000 in
theorem word_if {B G r d k : Nat} {t : Tok} {us us' : List Tok} {dp dp' : Option Nat} (w : World) (h : Rd B G w r (t :: us) d dp) (ht : t.text = [105, 102])
    (hc : ∀ w1, Rd B G w1 r (t :: us) d dp → Calls Tryz.prog 74 #[.pointer (some ⟨r, 0, none⟩)] w1 fun e w' => ∃ ac nc cc ab nb cb, e = .returned (.agg #[.int .i64 k, .int .i64 0, .string ⟨#[]⟩, .int .i64 0, .int .i64 0, .slice none 0 0, .slice none 0 0, .bool false, .string ⟨#[]⟩, .slice none 0 0, .slice ac nc cc, .slice none 0 0, .slice none 0 0, .slice ab nb cb, .slice none 0 0]) ∧ Hid (Chg (fun k => k = r) w1 w' ∧ Rd B G w' r us' d dp')) :
    Calls Tryz.prog 66 #[.pointer (some ⟨r, 0, none⟩)] w fun e w' => ∃ ac nc cc ab nb cb, e = .returned (.agg #[.int .i64 k, .int .i64 0, .string ⟨#[]⟩, .int .i64 0, .int .i64 0, .slice none 0 0, .slice none 0 0, .bool false, .string ⟨#[]⟩, .slice none 0 0, .slice ac nc cc, .slice none 0 0, .slice none 0 0, .slice ab nb cb, .slice none 0 0]) ∧ Hid (Chg (fun k => k = r) w w' ∧ Rd B G w' r us' d dp') := by
  have hk0 := (Kept.refl w).alloc (.cells #[.int .i64 0, .int .i64 0, .string ⟨#[]⟩, .int .i64 0, .int .i64 0, .slice none 0 0, .slice none 0 0, .bool false, .string ⟨#[]⟩, .slice none 0 0, .slice none 0 0, .slice none 0 0, .slice none 0 0, .slice none 0 0, .slice none 0 0] 43)
  have hx0 : (t.text == [108, 101, 116]) = false := by rw [ht]; rfl
  have hx1 : (t.text == [99, 97, 108, 108]) = false := by rw [ht]; rfl
  have hx2 : (t.text == [105, 102]) = true := by rw [ht]; rfl
  have HP := Lib.hid (peek_any _ (h.kept hk0))
  have HR := Lib.hid (h.kept hk0)
  have HC := Lib.hid hc
  have Hk0 := Lib.hid hk0
  have hB := h.size
  have hrw := h.lt
  have hGw := h.ltG
  have B0 := Lib.hid (heap_alloc_new w (.cells #[.int .i64 0, .int .i64 0, .string ⟨#[]⟩, .int .i64 0, .int .i64 0, .slice none 0 0, .slice none 0 0, .bool false, .string ⟨#[]⟩, .slice none 0 0, .slice none 0 0, .slice none 0 0, .slice none 0 0, .slice none 0 0, .slice none 0 0] 43))
  clear h ht hk0 hc
  go_enter Tryz.func66, Tryz.ntmps66
  go_upto_region 7 with (go_at_call 14; refine (HP.out).mono ?_; rintro e w1 ⟨rfl, K1⟩)
  have H2 := Lib.hid (HC.out w1 (HR.out.kept K1.out))
  go_wp2_with (go_at_call 74; refine (H2.out).mono ?_; rintro e w2 ⟨ac, nc, cc, ab, nb, cb, rfl, K2⟩; have hb := K2.out.1.heap ((Below.block K1.out _ (box_lt B0.out)).trans B0.out) (by omega); have l0 := box_cell hb 0 _ rfl; have l1 := box_cell hb 1 _ rfl; have l2 := box_cell hb 2 _ rfl; have l3 := box_cell hb 3 _ rfl; have l4 := box_cell hb 4 _ rfl; have l5 := box_cell hb 5 _ rfl; have l6 := box_cell hb 6 _ rfl; have l7 := box_cell hb 7 _ rfl; have l8 := box_cell hb 8 _ rfl; have l9 := box_cell hb 9 _ rfl; have l10 := box_cell hb 10 _ rfl; have l11 := box_cell hb 11 _ rfl; have l12 := box_cell hb 12 _ rfl; have l13 := box_cell hb 13 _ rfl; have l14 := box_cell hb 14 _ rfl; have lf := box_froz hb; clear hb)
  refine bodyPost_ret (v := .agg #[.int .i64 k, .int .i64 0, .string ⟨#[]⟩, .int .i64 0, .int .i64 0, .slice none 0 0, .slice none 0 0, .bool false, .string ⟨#[]⟩, .slice none 0 0, .slice ac nc cc, .slice none 0 0, .slice none 0 0, .slice ab nb cb, .slice none 0 0]) ?_ rfl ⟨ac, nc, cc, ab, nb, cb, rfl, Lib.hid ?_⟩
  · simp [results, Tryz.results66, go_sem, l0, l1, l2, l3, l4, l5, l6, l7, l8, l9, l10, l11, l12, l13, l14]
  have c5 := chg_set15 w2 w.heap.size (.int .i64 k) (.int .i64 0) (.string ⟨#[]⟩) (.int .i64 0) (.int .i64 0) (.slice none 0 0) (.slice none 0 0) (.bool false) (.string ⟨#[]⟩) (.slice none 0 0) (.slice ac nc cc) (.slice none 0 0) (.slice none 0 0) (.slice ab nb cb) (.slice none 0 0)
  exact ⟨((Chg.of_kept (Hk0.out.trans K1.out)).then K2.out.1).trans c5 (fun i hi e => by omega), K2.out.2.chg c5 (fun k e => by subst e; exact ⟨hB, by omega, by omega⟩)⟩
set_option maxRecDepth 100000 in
set_option maxHeartbeats 8000000 in
theorem word_break {B G r d k : Nat} {t : Tok} {us us' : List Tok} {dp dp' : Option Nat} (w : World) (h : Rd B G w r (t :: us) d dp) (ht : t.text = [98, 114, 101, 97, 107])
    (hc : ∀ w1, Rd B G w1 r (t :: us) d dp → Calls Tryz.prog 76 #[.pointer (some ⟨r, 0, none⟩), .int .i64 8] w1 fun e w' => ∃ ac nc cc ab nb cb, e = .returned (.agg #[.int .i64 k, .int .i64 0, .string ⟨#[]⟩, .int .i64 0, .int .i64 0, .slice none 0 0, .slice none 0 0, .bool false, .string ⟨#[]⟩, .slice none 0 0, .slice ac nc cc, .slice none 0 0, .slice none 0 0, .slice ab nb cb, .slice none 0 0]) ∧ Hid (Chg (fun k => k = r) w1 w' ∧ Rd B G w' r us' d dp')) :
    Calls Tryz.prog 66 #[.pointer (some ⟨r, 0, none⟩)] w fun e w' => ∃ ac nc cc ab nb cb, e = .returned (.agg #[.int .i64 k, .int .i64 0, .string ⟨#[]⟩, .int .i64 0, .int .i64 0, .slice none 0 0, .slice none 0 0, .bool false, .string ⟨#[]⟩, .slice none 0 0, .slice ac nc cc, .slice none 0 0, .slice none 0 0, .slice ab nb cb, .slice none 0 0]) ∧ Hid (Chg (fun k => k = r) w w' ∧ Rd B G w' r us' d dp') := by
  have hk0 := (Kept.refl w).alloc (.cells #[.int .i64 0, .int .i64 0, .string ⟨#[]⟩, .int .i64 0, .int .i64 0, .slice none 0 0, .slice none 0 0, .bool false, .string ⟨#[]⟩, .slice none 0 0, .slice none 0 0, .slice none 0 0, .slice none 0 0, .slice none 0 0, .slice none 0 0] 43)
  have hx0 : (t.text == [108, 101, 116]) = false := by rw [ht]; rfl
  have hx1 : (t.text == [99, 97, 108, 108]) = false := by rw [ht]; rfl
  have hx2 : (t.text == [105, 102]) = false := by rw [ht]; rfl
  have hx3 : (t.text == [119, 104, 105, 108, 101]) = false := by rw [ht]; rfl
  have hx4 : (t.text == [98, 114, 101, 97, 107]) = true := by rw [ht]; rfl
  have HP := Lib.hid (peek_any _ (h.kept hk0))
  have HR := Lib.hid (h.kept hk0)
  have HC := Lib.hid hc
  have Hk0 := Lib.hid hk0
  have hB := h.size
  have hrw := h.lt
  have hGw := h.ltG
  have B0 := Lib.hid (heap_alloc_new w (.cells #[.int .i64 0, .int .i64 0, .string ⟨#[]⟩, .int .i64 0, .int .i64 0, .slice none 0 0, .slice none 0 0, .bool false, .string ⟨#[]⟩, .slice none 0 0, .slice none 0 0, .slice none 0 0, .slice none 0 0, .slice none 0 0, .slice none 0 0] 43))
  clear h ht hk0 hc
  go_enter Tryz.func66, Tryz.ntmps66
  go_upto_region 11 with (go_at_call 14; refine (HP.out).mono ?_; rintro e w1 ⟨rfl, K1⟩)
  have H2 := Lib.hid (HC.out w1 (HR.out.kept K1.out))
  go_wp2_with (go_at_call 76; refine (H2.out).mono ?_; rintro e w2 ⟨ac, nc, cc, ab, nb, cb, rfl, K2⟩; have hb := K2.out.1.heap ((Below.block K1.out _ (box_lt B0.out)).trans B0.out) (by omega); have l0 := box_cell hb 0 _ rfl; have l1 := box_cell hb 1 _ rfl; have l2 := box_cell hb 2 _ rfl; have l3 := box_cell hb 3 _ rfl; have l4 := box_cell hb 4 _ rfl; have l5 := box_cell hb 5 _ rfl; have l6 := box_cell hb 6 _ rfl; have l7 := box_cell hb 7 _ rfl; have l8 := box_cell hb 8 _ rfl; have l9 := box_cell hb 9 _ rfl; have l10 := box_cell hb 10 _ rfl; have l11 := box_cell hb 11 _ rfl; have l12 := box_cell hb 12 _ rfl; have l13 := box_cell hb 13 _ rfl; have l14 := box_cell hb 14 _ rfl; have lf := box_froz hb; clear hb)
  refine bodyPost_ret (v := .agg #[.int .i64 k, .int .i64 0, .string ⟨#[]⟩, .int .i64 0, .int .i64 0, .slice none 0 0, .slice none 0 0, .bool false, .string ⟨#[]⟩, .slice none 0 0, .slice ac nc cc, .slice none 0 0, .slice none 0 0, .slice ab nb cb, .slice none 0 0]) ?_ rfl ⟨ac, nc, cc, ab, nb, cb, rfl, Lib.hid ?_⟩
  · simp [results, Tryz.results66, go_sem, l0, l1, l2, l3, l4, l5, l6, l7, l8, l9, l10, l11, l12, l13, l14]
  have c5 := chg_set15 w2 w.heap.size (.int .i64 k) (.int .i64 0) (.string ⟨#[]⟩) (.int .i64 0) (.int .i64 0) (.slice none 0 0) (.slice none 0 0) (.bool false) (.string ⟨#[]⟩) (.slice none 0 0) (.slice ac nc cc) (.slice none 0 0) (.slice none 0 0) (.slice ab nb cb) (.slice none 0 0)
  exact ⟨((Chg.of_kept (Hk0.out.trans K1.out)).then K2.out.1).trans c5 (fun i hi e => by omega), K2.out.2.chg c5 (fun k e => by subst e; exact ⟨hB, by omega, by omega⟩)⟩
set_option maxRecDepth 100000 in
set_option maxHeartbeats 8000000 in
theorem word_continue {B G r d k : Nat} {t : Tok} {us us' : List Tok} {dp dp' : Option Nat} (w : World) (h : Rd B G w r (t :: us) d dp) (ht : t.text = [99, 111, 110, 116, 105, 110, 117, 101])
    (hc : ∀ w1, Rd B G w1 r (t :: us) d dp → Calls Tryz.prog 76 #[.pointer (some ⟨r, 0, none⟩), .int .i64 9] w1 fun e w' => ∃ ac nc cc ab nb cb, e = .returned (.agg #[.int .i64 k, .int .i64 0, .string ⟨#[]⟩, .int .i64 0, .int .i64 0, .slice none 0 0, .slice none 0 0, .bool false, .string ⟨#[]⟩, .slice none 0 0, .slice ac nc cc, .slice none 0 0, .slice none 0 0, .slice ab nb cb, .slice none 0 0]) ∧ Hid (Chg (fun k => k = r) w1 w' ∧ Rd B G w' r us' d dp')) :
    Calls Tryz.prog 66 #[.pointer (some ⟨r, 0, none⟩)] w fun e w' => ∃ ac nc cc ab nb cb, e = .returned (.agg #[.int .i64 k, .int .i64 0, .string ⟨#[]⟩, .int .i64 0, .int .i64 0, .slice none 0 0, .slice none 0 0, .bool false, .string ⟨#[]⟩, .slice none 0 0, .slice ac nc cc, .slice none 0 0, .slice none 0 0, .slice ab nb cb, .slice none 0 0]) ∧ Hid (Chg (fun k => k = r) w w' ∧ Rd B G w' r us' d dp') := by
  have hk0 := (Kept.refl w).alloc (.cells #[.int .i64 0, .int .i64 0, .string ⟨#[]⟩, .int .i64 0, .int .i64 0, .slice none 0 0, .slice none 0 0, .bool false, .string ⟨#[]⟩, .slice none 0 0, .slice none 0 0, .slice none 0 0, .slice none 0 0, .slice none 0 0, .slice none 0 0] 43)
  have hx0 : (t.text == [108, 101, 116]) = false := by rw [ht]; rfl
  have hx1 : (t.text == [99, 97, 108, 108]) = false := by rw [ht]; rfl
  have hx2 : (t.text == [105, 102]) = false := by rw [ht]; rfl
  have hx3 : (t.text == [119, 104, 105, 108, 101]) = false := by rw [ht]; rfl
  have hx4 : (t.text == [98, 114, 101, 97, 107]) = false := by rw [ht]; rfl
  have hx5 : (t.text == [99, 111, 110, 116, 105, 110, 117, 101]) = true := by rw [ht]; rfl
  have HP := Lib.hid (peek_any _ (h.kept hk0))
  have HR := Lib.hid (h.kept hk0)
  have HC := Lib.hid hc
  have Hk0 := Lib.hid hk0
  have hB := h.size
  have hrw := h.lt
  have hGw := h.ltG
  have B0 := Lib.hid (heap_alloc_new w (.cells #[.int .i64 0, .int .i64 0, .string ⟨#[]⟩, .int .i64 0, .int .i64 0, .slice none 0 0, .slice none 0 0, .bool false, .string ⟨#[]⟩, .slice none 0 0, .slice none 0 0, .slice none 0 0, .slice none 0 0, .slice none 0 0, .slice none 0 0] 43))
  clear h ht hk0 hc
  go_enter Tryz.func66, Tryz.ntmps66
  go_upto_region 13 with (go_at_call 14; refine (HP.out).mono ?_; rintro e w1 ⟨rfl, K1⟩)
  have H2 := Lib.hid (HC.out w1 (HR.out.kept K1.out))
  go_wp2_with (go_at_call 76; refine (H2.out).mono ?_; rintro e w2 ⟨ac, nc, cc, ab, nb, cb, rfl, K2⟩; have hb := K2.out.1.heap ((Below.block K1.out _ (box_lt B0.out)).trans B0.out) (by omega); have l0 := box_cell hb 0 _ rfl; have l1 := box_cell hb 1 _ rfl; have l2 := box_cell hb 2 _ rfl; have l3 := box_cell hb 3 _ rfl; have l4 := box_cell hb 4 _ rfl; have l5 := box_cell hb 5 _ rfl; have l6 := box_cell hb 6 _ rfl; have l7 := box_cell hb 7 _ rfl; have l8 := box_cell hb 8 _ rfl; have l9 := box_cell hb 9 _ rfl; have l10 := box_cell hb 10 _ rfl; have l11 := box_cell hb 11 _ rfl; have l12 := box_cell hb 12 _ rfl; have l13 := box_cell hb 13 _ rfl; have l14 := box_cell hb 14 _ rfl; have lf := box_froz hb; clear hb)
  refine bodyPost_ret (v := .agg #[.int .i64 k, .int .i64 0, .string ⟨#[]⟩, .int .i64 0, .int .i64 0, .slice none 0 0, .slice none 0 0, .bool false, .string ⟨#[]⟩, .slice none 0 0, .slice ac nc cc, .slice none 0 0, .slice none 0 0, .slice ab nb cb, .slice none 0 0]) ?_ rfl ⟨ac, nc, cc, ab, nb, cb, rfl, Lib.hid ?_⟩
  · simp [results, Tryz.results66, go_sem, l0, l1, l2, l3, l4, l5, l6, l7, l8, l9, l10, l11, l12, l13, l14]
  have c5 := chg_set15 w2 w.heap.size (.int .i64 k) (.int .i64 0) (.string ⟨#[]⟩) (.int .i64 0) (.int .i64 0) (.slice none 0 0) (.slice none 0 0) (.bool false) (.string ⟨#[]⟩) (.slice none 0 0) (.slice ac nc cc) (.slice none 0 0) (.slice none 0 0) (.slice ab nb cb) (.slice none 0 0)
  exact ⟨((Chg.of_kept (Hk0.out.trans K1.out)).then K2.out.1).trans c5 (fun i hi e => by omega), K2.out.2.chg c5 (fun k e => by subst e; exact ⟨hB, by omega, by omega⟩)⟩
set_option maxRecDepth 100000 in
set_option maxHeartbeats 8000000 in
theorem word_return {B G r d k : Nat} {t : Tok} {us us' : List Tok} {dp dp' : Option Nat} (w : World) (h : Rd B G w r (t :: us) d dp) (ht : t.text = [114, 101, 116, 117, 114, 110])
    (hc : ∀ w1, Rd B G w1 r (t :: us) d dp → Calls Tryz.prog 77 #[.pointer (some ⟨r, 0, none⟩)] w1 fun e w' => ∃ ac nc cc ab nb cb, e = .returned (.agg #[.int .i64 k, .int .i64 0, .string ⟨#[]⟩, .int .i64 0, .int .i64 0, .slice none 0 0, .slice none 0 0, .bool false, .string ⟨#[]⟩, .slice none 0 0, .slice ac nc cc, .slice none 0 0, .slice none 0 0, .slice ab nb cb, .slice none 0 0]) ∧ Hid (Chg (fun k => k = r) w1 w' ∧ Rd B G w' r us' d dp')) :
    Calls Tryz.prog 66 #[.pointer (some ⟨r, 0, none⟩)] w fun e w' => ∃ ac nc cc ab nb cb, e = .returned (.agg #[.int .i64 k, .int .i64 0, .string ⟨#[]⟩, .int .i64 0, .int .i64 0, .slice none 0 0, .slice none 0 0, .bool false, .string ⟨#[]⟩, .slice none 0 0, .slice ac nc cc, .slice none 0 0, .slice none 0 0, .slice ab nb cb, .slice none 0 0]) ∧ Hid (Chg (fun k => k = r) w w' ∧ Rd B G w' r us' d dp') := by
  have hk0 := (Kept.refl w).alloc (.cells #[.int .i64 0, .int .i64 0, .string ⟨#[]⟩, .int .i64 0, .int .i64 0, .slice none 0 0, .slice none 0 0, .bool false, .string ⟨#[]⟩, .slice none 0 0, .slice none 0 0, .slice none 0 0, .slice none 0 0, .slice none 0 0, .slice none 0 0] 43)
  have hx0 : (t.text == [108, 101, 116]) = false := by rw [ht]; rfl
  have hx1 : (t.text == [99, 97, 108, 108]) = false := by rw [ht]; rfl
  have hx2 : (t.text == [105, 102]) = false := by rw [ht]; rfl
  have hx3 : (t.text == [119, 104, 105, 108, 101]) = false := by rw [ht]; rfl
  have hx4 : (t.text == [98, 114, 101, 97, 107]) = false := by rw [ht]; rfl
  have hx5 : (t.text == [99, 111, 110, 116, 105, 110, 117, 101]) = false := by rw [ht]; rfl
  have hx6 : (t.text == [114, 101, 116, 117, 114, 110]) = true := by rw [ht]; rfl
  have HP := Lib.hid (peek_any _ (h.kept hk0))
  have HR := Lib.hid (h.kept hk0)
  have HC := Lib.hid hc
  have Hk0 := Lib.hid hk0
  have hB := h.size
  have hrw := h.lt
  have hGw := h.ltG
  have B0 := Lib.hid (heap_alloc_new w (.cells #[.int .i64 0, .int .i64 0, .string ⟨#[]⟩, .int .i64 0, .int .i64 0, .slice none 0 0, .slice none 0 0, .bool false, .string ⟨#[]⟩, .slice none 0 0, .slice none 0 0, .slice none 0 0, .slice none 0 0, .slice none 0 0, .slice none 0 0] 43))
  clear h ht hk0 hc
  go_enter Tryz.func66, Tryz.ntmps66
  go_upto_region 15 with (go_at_call 14; refine (HP.out).mono ?_; rintro e w1 ⟨rfl, K1⟩)
  have H2 := Lib.hid (HC.out w1 (HR.out.kept K1.out))
  go_wp2_with (go_at_call 77; refine (H2.out).mono ?_; rintro e w2 ⟨ac, nc, cc, ab, nb, cb, rfl, K2⟩; have hb := K2.out.1.heap ((Below.block K1.out _ (box_lt B0.out)).trans B0.out) (by omega); have l0 := box_cell hb 0 _ rfl; have l1 := box_cell hb 1 _ rfl; have l2 := box_cell hb 2 _ rfl; have l3 := box_cell hb 3 _ rfl; have l4 := box_cell hb 4 _ rfl; have l5 := box_cell hb 5 _ rfl; have l6 := box_cell hb 6 _ rfl; have l7 := box_cell hb 7 _ rfl; have l8 := box_cell hb 8 _ rfl; have l9 := box_cell hb 9 _ rfl; have l10 := box_cell hb 10 _ rfl; have l11 := box_cell hb 11 _ rfl; have l12 := box_cell hb 12 _ rfl; have l13 := box_cell hb 13 _ rfl; have l14 := box_cell hb 14 _ rfl; have lf := box_froz hb; clear hb)
  refine bodyPost_ret (v := .agg #[.int .i64 k, .int .i64 0, .string ⟨#[]⟩, .int .i64 0, .int .i64 0, .slice none 0 0, .slice none 0 0, .bool false, .string ⟨#[]⟩, .slice none 0 0, .slice ac nc cc, .slice none 0 0, .slice none 0 0, .slice ab nb cb, .slice none 0 0]) ?_ rfl ⟨ac, nc, cc, ab, nb, cb, rfl, Lib.hid ?_⟩
  · simp [results, Tryz.results66, go_sem, l0, l1, l2, l3, l4, l5, l6, l7, l8, l9, l10, l11, l12, l13, l14]
  have c5 := chg_set15 w2 w.heap.size (.int .i64 k) (.int .i64 0) (.string ⟨#[]⟩) (.int .i64 0) (.int .i64 0) (.slice none 0 0) (.slice none 0 0) (.bool false) (.string ⟨#[]⟩) (.slice none 0 0) (.slice ac nc cc) (.slice none 0 0) (.slice none 0 0) (.slice ab nb cb) (.slice none 0 0)
  exact ⟨((Chg.of_kept (Hk0.out.trans K1.out)).then K2.out.1).trans c5 (fun i hi e => by omega), K2.out.2.chg c5 (fun k e => by subst e; exact ⟨hB, by omega, by omega⟩)⟩
theorem bare_said {B G r d : Nat} {t : Tok} {us us' : List Tok} {dp dp' : Option Nat} {k k' : Nat} (hs : bareF k us dp = some (us', dp', k')) (w1 : World) (h : Rd B G w1 r (t :: us) d dp) : Calls Tryz.prog 76 #[.pointer (some ⟨r, 0, none⟩), .int .i64 k] w1 fun e w' => ∃ ac nc cc ab nb cb, e = .returned (.agg #[.int .i64 k', .int .i64 0, .string ⟨#[]⟩, .int .i64 0, .int .i64 0, .slice none 0 0, .slice none 0 0, .bool false, .string ⟨#[]⟩, .slice none 0 0, .slice ac nc cc, .slice none 0 0, .slice none 0 0, .slice ab nb cb, .slice none 0 0]) ∧ Hid (Chg (fun k => k = r) w1 w' ∧ Rd B G w' r us' d dp') := by
  unfold bareF at hs
  split at hs
  · cases hs
  · split at hs
    · simp only [Option.some.injEq, Prod.mk.injEq] at hs
      obtain ⟨rfl, rfl, rfl⟩ := hs
      rename_i s us2 hs
      exact (bare_any w1 h hs).mono fun e w' ⟨he, hh⟩ => ⟨none, 0, 0, none, 0, 0, he, hh⟩
    · cases hs
theorem leave_said {B G r d : Nat} {t : Tok} {us us' : List Tok} {dp dp' : Option Nat} {k' : Nat} (ht : t.text = [114, 101, 116, 117, 114, 110]) (hs : bareF 10 us dp = some (us', dp', k')) (w1 : World) (h : Rd B G w1 r (t :: us) d dp) : Calls Tryz.prog 77 #[.pointer (some ⟨r, 0, none⟩)] w1 fun e w' => ∃ ac nc cc ab nb cb, e = .returned (.agg #[.int .i64 k', .int .i64 0, .string ⟨#[]⟩, .int .i64 0, .int .i64 0, .slice none 0 0, .slice none 0 0, .bool false, .string ⟨#[]⟩, .slice none 0 0, .slice ac nc cc, .slice none 0 0, .slice none 0 0, .slice ab nb cb, .slice none 0 0]) ∧ Hid (Chg (fun k => k = r) w1 w' ∧ Rd B G w' r us' d dp') := by
  unfold bareF at hs
  split at hs
  · cases hs
  · split at hs
    · simp only [Option.some.injEq, Prod.mk.injEq] at hs
      obtain ⟨rfl, rfl, rfl⟩ := hs
      rename_i s us2 hs
      exact (leave_none w1 h ht hs).mono fun e w' ⟨he, hh⟩ => ⟨none, 0, 0, none, 0, 0, he, hh⟩
    · cases hs
end Go.Proofs.YtoafcpbpnkfhoaaGreatDoor.Prs
