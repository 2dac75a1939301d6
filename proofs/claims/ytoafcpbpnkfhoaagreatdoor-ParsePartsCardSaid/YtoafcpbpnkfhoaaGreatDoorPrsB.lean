/-
  Contracts of the reader's further small methods (take, skip, open, close, finish, name, num, typeName) and of the plain functions operator, relation, typ.Read.
-/
import Derived.Test.YtoafcpbpnkfhoaaGreatDoorPrsA
namespace Go.Proofs.YtoafcpbpnkfhoaaGreatDoor.Prs
open Go.RowKit
open Lex (Tok Laid)
attribute [local go_sem] tok0 tok1 tok2

theorem Chg.below {B : Nat} {S : Nat → Prop} {w w' : World} (h : Chg S w w') (hB : B ≤ w.heap.size) (hs : ∀ k, S k → B ≤ k) : Below B w w' :=
  ⟨h.os, h.tape, h.output, h.size, fun k hk => h.block k (by omega) (fun s => by have := hs k s; omega)⟩
/-- The reader has given up, at the place k. -/
def Bad (B : Nat) (w : World) (k : Nat) (e : Ending) (w' : World) : Prop := e = .panicked [{ v := faultV 5 k, recovered := false }] ∧ Hid (Below B w w')
theorem Rd.size {B G : Nat} {w : World} {r : Nat} {us : List Tok} {d : Nat} {dp : Option Nat} (h : Rd B G w r us d dp) : B ≤ w.heap.size := Nat.le_of_lt (Nat.lt_of_le_of_lt h.above h.lt)

set_option maxRecDepth 100000 in
theorem take_yes {B G r d : Nat} {dp : Option Nat} {t : Tok} {us : List Tok} {s : List UInt8} (w : World) (h : Rd B G w r (t :: us) d dp) (hs : t.text = s) : Calls Tryz.prog 23 #[.pointer (some ⟨r, 0, none⟩), .string ⟨s.toArray⟩] w fun e w' => e = .returned (.int .i64 t.place) ∧ Hid (Chg (fun k => k = r) w w' ∧ Rd B G w' r us d dp) := by
  have HI := Lib.hid (is_yes w h hs)
  have HR := Lib.hid h
  clear h hs
  go_enter Tryz.func23, Tryz.ntmps23
  go_upto_region 3 with (go_at_call 45; refine (HI.out).mono ?_; rintro e w1 ⟨rfl, Hk⟩)
  have HN := Lib.hid (next_any w1 (HR.out.kept Hk.out))
  go_wp2_with (go_at_call 46; refine (HN.out).mono ?_; rintro e w2 ⟨rfl, Hn⟩)
  go_ret
  exact ⟨rfl, Lib.hid ⟨(Chg.of_kept Hk.out).then Hn.out.1, Hn.out.2⟩⟩
set_option maxRecDepth 100000 in
theorem take_no {B G r d : Nat} {dp : Option Nat} {t : Tok} {us : List Tok} {s : List UInt8} (w : World) (h : Rd B G w r (t :: us) d dp) (hs : t.text ≠ s) : Calls Tryz.prog 23 #[.pointer (some ⟨r, 0, none⟩), .string ⟨s.toArray⟩] w (Bad B w t.place) := by
  have HI := Lib.hid (is_no w h hs)
  have HR := Lib.hid h
  clear h hs
  go_enter Tryz.func23, Tryz.ntmps23
  go_upto_region 2 with (go_at_call 45; refine (HI.out).mono ?_; rintro e w1 ⟨rfl, Hk⟩)
  have HN := Lib.hid (refuse_any w1 (HR.out.kept Hk.out))
  go_wp2_with (go_at_call 17; refine (HN.out).mono ?_; rintro e w2 ⟨rfl, Hn⟩)
  exact ⟨rfl, rfl, Lib.hid (Below.mono (Hk.out.trans Hn.out) HR.out.size)⟩
set_option maxRecDepth 100000 in
theorem skip_yes {B G r d : Nat} {dp : Option Nat} {t : Tok} {us : List Tok} {s : List UInt8} (w : World) (h : Rd B G w r (t :: us) d dp) (hs : t.text = s) : Calls Tryz.prog 27 #[.pointer (some ⟨r, 0, none⟩), .string ⟨s.toArray⟩] w fun e w' => e = .returned (.bool true) ∧ Hid (Chg (fun k => k = r) w w' ∧ Rd B G w' r us d dp) := by
  have HI := Lib.hid (is_yes w h hs)
  have HR := Lib.hid h
  clear h hs
  go_enter Tryz.func27, Tryz.ntmps27
  go_upto_region 3 with (go_at_call 45; refine (HI.out).mono ?_; rintro e w1 ⟨rfl, Hk⟩)
  have HN := Lib.hid (next_any w1 (HR.out.kept Hk.out))
  go_wp2_with (go_at_call 46; refine (HN.out).mono ?_; rintro e w2 ⟨rfl, Hn⟩)
  go_ret
  exact ⟨rfl, Lib.hid ⟨(Chg.of_kept Hk.out).then Hn.out.1, Hn.out.2⟩⟩
set_option maxRecDepth 100000 in
theorem skip_no {B G r d : Nat} {dp : Option Nat} {t : Tok} {us : List Tok} {s : List UInt8} (w : World) (h : Rd B G w r (t :: us) d dp) (hs : t.text ≠ s) : Calls Tryz.prog 27 #[.pointer (some ⟨r, 0, none⟩), .string ⟨s.toArray⟩] w fun e w' => e = .returned (.bool false) ∧ Hid (Kept w w') := by
  have HI := Lib.hid (is_no w h hs)
  clear h hs
  go_enter Tryz.func27, Tryz.ntmps27
  go_wp2_with (go_at_call 45; refine (HI.out).mono ?_; rintro e w1 ⟨rfl, Hk⟩)
  go_ret
  exact ⟨rfl, Hk⟩
/-- The reader's own cells, whatever is left. -/
theorem Rd.cells {B G : Nat} {w : World} {r : Nat} {us : List Tok} {d : Nat} {dp : Option Nat} (h : Rd B G w r us d dp) :
    ∃ n cap p, w.heap[r]? = some (.cells (rdCells G n cap p d dp) 57 (0, 0)) ∧ w.cell? ⟨r, 2, none⟩ = some (.int .i64 d) ∧ w.cell? ⟨r, 3, none⟩ = some (.int .i64 (dpE dp)) ∧ w.cell? ⟨r, 4, none⟩ = some (.int .i64 (dpK dp)) ∧
      w.frozen? ⟨r, 2, none⟩ = false ∧ w.frozen? ⟨r, 3, none⟩ = false ∧ w.frozen? ⟨r, 4, none⟩ = false := by
  obtain ⟨n, cap, p, cur, h1, _⟩ := h.lie
  exact ⟨n, cap, p, h1, by simp [World.cell?, h1, rdCells], by simp [World.cell?, h1, rdCells], by simp [World.cell?, h1, rdCells], by simp [World.frozen?, h1], by simp [World.frozen?, h1], by simp [World.frozen?, h1]⟩
theorem Rd.same {B G : Nat} {w w' : World} {r : Nat} {us : List Tok} {d d' : Nat} {dp dp' : Option Nat} {n cap p : Nat} (h : Rd B G w r us d dp) (hr : w.heap[r]? = some (.cells (rdCells G n cap p d dp) 57 (0, 0))) (hc : Chg (fun k => k = r) w w') (hd : d' + us.length ≤ 8193)
    (hx : w'.heap[r]? = some (.cells (rdCells G n cap p d' dp') 57 (0, 0))) : Rd B G w' r us d' dp' :=
  h.moved hc ⟨[], rfl⟩ hd fun n' cap' p' e => by
    rw [hr] at e
    simp [rdCells] at e
    obtain ⟨⟨rfl, rfl⟩, e2⟩ := e
    have e3 : p = p' := by omega
    subst e3
    simpa using hx
theorem chg_set (w : World) (r o : Nat) (u : Value) : Chg (fun k => k = r) w (w.setCell ⟨r, o, none⟩ u) := (Chg.refl (fun k => k = r) w).setCell (fun _ => rfl) _
set_option maxRecDepth 100000 in
theorem close_any {B G r d : Nat} {dp : Option Nat} {us : List Tok} (w : World) (h : Rd B G w r us (d + 1) dp) : Calls Tryz.prog 55 #[.pointer (some ⟨r, 0, none⟩)] w fun e w' => e = .returned (.tuple #[]) ∧ Hid (Chg (fun k => k = r) w w' ∧ Rd B G w' r us d dp) := by
  obtain ⟨n, cap, p, hr, c2, c3, c4, f2, f3, f4⟩ := h.cells
  have hlow := h.low
  have HR := Lib.hid h
  have Hr := Lib.hid hr
  clear h hr
  go_enter Tryz.func55, Tryz.ntmps55
  go_wp2
  go_end0
  have hc := chg_set w r 2 (.int .i64 d)
  refine ⟨rfl, ?_⟩
  refine Lib.hid ⟨hc, HR.out.same Hr.out hc (by omega) ?_⟩
  rw [heap_setCell_same _ _ _ _ _ _ Hr.out]
  simp [rdCells]

set_option maxRecDepth 100000 in
theorem open_no {B G r d : Nat} {dp : Option Nat} {t : Tok} {us : List Tok} {s : List UInt8} (w : World) (h : Rd B G w r (t :: us) d dp) (hs : t.text ≠ s) : Calls Tryz.prog 53 #[.pointer (some ⟨r, 0, none⟩), .string ⟨s.toArray⟩] w (Bad B w t.place) := by
  have HI := Lib.hid (take_no w h hs)
  clear h hs
  go_enter Tryz.func53, Tryz.ntmps53
  go_wp2_with (go_at_call 23; refine (HI.out).mono ?_; rintro e w1 ⟨rfl, Hk⟩)
  exact ⟨rfl, rfl, Hk⟩
set_option maxRecDepth 100000 in
set_option maxHeartbeats 1000000 in
theorem open_yes {B G r d : Nat} {dp : Option Nat} {t : Tok} {us : List Tok} {s : List UInt8} (w : World) (h : Rd B G w r (t :: us) d dp) (hs : t.text = s) : Calls Tryz.prog 53 #[.pointer (some ⟨r, 0, none⟩), .string ⟨s.toArray⟩] w fun e w' => e = .returned (.int .i64 t.place) ∧ Hid (Chg (fun k => k = r) w w' ∧ Rd B G w' r us (d + 1) (dpF d dp t.place)) := by
  have HI := Lib.hid (take_yes w h hs)
  have hlow := h.low
  simp only [List.length_cons] at hlow
  clear h hs
  by_cases hd : 30 < d + 1
  · cases dp with
    | none =>
      have Hdp : Hid (dpF d none t.place = some t.place) := Lib.hid (by simp [dpF]; omega)
      have hg : decide ((30 : Int) < (d : Int) + 1) = true := by simp; omega
      go_enter Tryz.func53, Tryz.ntmps53
      go_upto_region 2 with (go_at_call 23; refine (HI.out).mono ?_; rintro e w1 ⟨rfl, Hk⟩)
      obtain ⟨n, cap, p, hr, c2, c3, c4, f2, f3, f4⟩ := Hk.out.2.cells
      simp only [dpE, dpK] at c3 c4
      have Hr := Lib.hid hr
      clear hr
      go_wp2
      go_ret
      refine ⟨rfl, Lib.hid ?_⟩
      have hc : Chg (fun k => k = r) w1 (((w1.setCell ⟨r, 2, none⟩ (.int .i64 ((d : Int) + 1))).setCell ⟨r, 3, none⟩ (.int .i64 6)).setCell ⟨r, 4, none⟩ (.int .i64 t.place)) := ((chg_set w1 r 2 _).then (chg_set _ r 3 _)).then (chg_set _ r 4 _)
      refine ⟨Hk.out.1.then hc, ?_⟩
      rw [Hdp.out]
      refine Hk.out.2.same Hr.out hc (by omega) ?_
      rw [heap_setCell_same _ _ _ _ _ _ (heap_setCell_same _ _ _ _ _ _ (heap_setCell_same _ _ _ _ _ _ Hr.out))]
      simp [rdCells, dpE, dpK]
    | some k =>
      have Hdp : Hid (dpF d (some k) t.place = some k) := Lib.hid (by simp [dpF])
      have hg : decide ((30 : Int) < (d : Int) + 1) = true := by simp; omega
      go_enter Tryz.func53, Tryz.ntmps53
      go_upto_region 2 with (go_at_call 23; refine (HI.out).mono ?_; rintro e w1 ⟨rfl, Hk⟩)
      obtain ⟨n, cap, p, hr, c2, c3, c4, f2, f3, f4⟩ := Hk.out.2.cells
      simp only [dpE, dpK] at c3 c4
      have Hr := Lib.hid hr
      clear hr
      go_wp2
      go_ret
      refine ⟨rfl, Lib.hid ?_⟩
      have hc := chg_set w1 r 2 (.int .i64 ((d : Int) + 1))
      refine ⟨Hk.out.1.then hc, ?_⟩
      rw [Hdp.out]
      refine Hk.out.2.same Hr.out hc (by omega) ?_
      rw [heap_setCell_same _ _ _ _ _ _ Hr.out]
      simp [rdCells]
  · have Hdp : Hid (dpF d dp t.place = dp) := Lib.hid (by simp [dpF]; omega)
    have hg : decide ((30 : Int) < (d : Int) + 1) = false := by simp; omega
    go_enter Tryz.func53, Tryz.ntmps53
    go_upto_region 2 with (go_at_call 23; refine (HI.out).mono ?_; rintro e w1 ⟨rfl, Hk⟩)
    obtain ⟨n, cap, p, hr, c2, c3, c4, f2, f3, f4⟩ := Hk.out.2.cells
    have Hr := Lib.hid hr
    clear hr
    go_wp2
    go_ret
    refine ⟨rfl, Lib.hid ?_⟩
    have hc := chg_set w1 r 2 (.int .i64 ((d : Int) + 1))
    refine ⟨Hk.out.1.then hc, ?_⟩
    rw [Hdp.out]
    refine Hk.out.2.same Hr.out hc (by omega) ?_
    rw [heap_setCell_same _ _ _ _ _ _ Hr.out]
    simp [rdCells]
set_option maxRecDepth 100000 in
/-- All tokens are read. -/
theorem finish_ok {B G r d : Nat} {t : Tok} {us : List Tok} (w : World) (h : Rd B G w r (t :: us) d none) (hk : t.kind = 0) : Calls Tryz.prog 11 #[.pointer (some ⟨r, 0, none⟩)] w fun e w' => e = .returned (.tuple #[]) ∧ Hid (Kept w w') := by
  have HP := Lib.hid (peek_any w h)
  have HR := Lib.hid h
  rw [hk] at HP
  clear h hk
  go_enter Tryz.func11, Tryz.ntmps11
  go_upto_region 2 with (go_at_call 14; refine (HP.out).mono ?_; rintro e w1 ⟨rfl, Hk⟩)
  obtain ⟨n, cap, p, hr, c2, c3, c4, f2, f3, f4⟩ := (HR.out.kept Hk.out).cells
  clear hr
  simp only [dpE, dpK] at c3 c4
  go_wp2
  go_end0
  exact ⟨rfl, Hk⟩
set_option maxRecDepth 100000 in
/-- All tokens are read, and it was too deep. -/
theorem finish_deep {B G r d k : Nat} {t : Tok} {us : List Tok} (w : World) (h : Rd B G w r (t :: us) d (some k)) (hk : t.kind = 0) : Calls Tryz.prog 11 #[.pointer (some ⟨r, 0, none⟩)] w fun e w' => e = .panicked [{ v := faultV 6 k, recovered := false }] ∧ Hid (Kept w w') := by
  have HP := Lib.hid (peek_any w h)
  have HR := Lib.hid h
  rw [hk] at HP
  clear h hk
  go_enter Tryz.func11, Tryz.ntmps11
  go_upto_region 2 with (go_at_call 14; refine (HP.out).mono ?_; rintro e w1 ⟨rfl, Hk⟩)
  obtain ⟨n, cap, p, hr, c2, c3, c4, f2, f3, f4⟩ := (HR.out.kept Hk.out).cells
  clear hr
  simp only [dpE, dpK] at c3 c4
  go_wp2
  exact ⟨rfl, rfl, Hk⟩
set_option maxRecDepth 100000 in
theorem finish_no {B G r d : Nat} {dp : Option Nat} {t : Tok} {us : List Tok} (w : World) (h : Rd B G w r (t :: us) d dp) (hk : t.kind ≠ 0) : Calls Tryz.prog 11 #[.pointer (some ⟨r, 0, none⟩)] w (Bad B w t.place) := by
  have HP := Lib.hid (peek_any w h)
  have HR := Lib.hid h
  have hb : ((t.kind : Int) != 0) = true := by rw [bne_iff_ne]; omega
  clear h hk
  go_enter Tryz.func11, Tryz.ntmps11
  go_upto_region 1 with (go_at_call 14; refine (HP.out).mono ?_; rintro e w1 ⟨rfl, Hk⟩)
  have HN := Lib.hid (refuse_any w1 (HR.out.kept Hk.out))
  go_wp2_with (go_at_call 17; refine (HN.out).mono ?_; rintro e w2 ⟨rfl, Hn⟩)
  exact ⟨rfl, rfl, Lib.hid (Below.mono (Hk.out.trans Hn.out) HR.out.size)⟩
set_option maxRecDepth 100000 in
theorem name_no {B G r d : Nat} {dp : Option Nat} {t : Tok} {us : List Tok} (w : World) (h : Rd B G w r (t :: us) d dp) (hk : t.kind ≠ 1) : Calls Tryz.prog 24 #[.pointer (some ⟨r, 0, none⟩)] w (Bad B w t.place) := by
  have hk0 := (Kept.refl w).alloc (.cells #[.int .i64 0, .string ⟨#[]⟩, .int .i64 0] 62)
  have HP := Lib.hid (peek_any _ (h.kept hk0))
  have HR := Lib.hid (h.kept hk0)
  have Hk0 := Lib.hid hk0
  have hb : ((t.kind : Int) != 1) = true := by rw [bne_iff_ne]; omega
  have hB := h.size
  clear h hk hk0
  go_enter Tryz.func24, Tryz.ntmps24
  go_upto_region 2 with (go_at_call 14; refine (HP.out).mono ?_; rintro e w1 ⟨rfl, Hk⟩)
  have HN := Lib.hid (refuse_any w1 (HR.out.kept Hk.out))
  go_wp2_with (go_at_call 17; refine (HN.out).mono ?_; rintro e w2 ⟨rfl, Hn⟩)
  exact ⟨rfl, rfl, Lib.hid (Below.mono (Hk0.out.trans (Hk.out.trans Hn.out)) hB)⟩
set_option maxRecDepth 100000 in
set_option maxHeartbeats 1000000 in
theorem name_yes {B G r d : Nat} {dp : Option Nat} {t : Tok} {us : List Tok} (w : World) (h : Rd B G w r (t :: us) d dp) (hk : t.kind = 1) : Calls Tryz.prog 24 #[.pointer (some ⟨r, 0, none⟩)] w fun e w' => e = .returned (.agg #[.int .i64 t.kind, .string ⟨t.text.toArray⟩, .int .i64 t.place]) ∧ Hid (Chg (fun k => k = r) w w' ∧ Rd B G w' r us d dp) := by
  have hk0 := (Kept.refl w).alloc (.cells #[.int .i64 0, .string ⟨#[]⟩, .int .i64 0] 62)
  have HP := Lib.hid (peek_any _ (h.kept hk0))
  have HR := Lib.hid (h.kept hk0)
  have Hk0 := Lib.hid hk0
  have hrw := h.lt
  have HB := h.size
  have hGw := h.ltG
  rw [hk] at HP ⊢
  clear h hk0
  have Hkk := Lib.hid hk
  clear hk
  go_enter Tryz.func24, Tryz.ntmps24
  go_upto_region 3 with (go_at_call 14; refine (HP.out).mono ?_; rintro e w1 ⟨rfl, Hk⟩)
  have HN := Lib.hid (next_any w1 (HR.out.kept Hk.out))
  rw [Hkk.out] at HN
  have hne : ¬ w.heap.size = r := by omega
  have Hb := Lib.hid (show w1.heap[w.heap.size]? = some (.cells #[.int .i64 0, .string ⟨#[]⟩, .int .i64 0] 62 (0, 0)) from (Below.block Hk.out _ (by simp)).trans (heap_alloc_new w _))
  go_wp2_with (go_at_call 46; refine (HN.out).mono ?_; rintro e w2 ⟨rfl, Hn⟩; have hb2 := Hn.out.1.heap Hb.out hne; have z0 := box_cell hb2 0 _ rfl; have z1 := box_cell hb2 1 _ rfl; have z2 := box_cell hb2 2 _ rfl; have y0 := box_froz hb2; have Hb2 := Lib.hid hb2; clear hb2)
  refine bodyPost_ret (v := .agg #[.int .i64 1, .string ⟨t.text.toArray⟩, .int .i64 t.place]) ?_ rfl ⟨rfl, Lib.hid ?_⟩
  · simp [results, Tryz.results24, go_sem, z0, z1, z2]
  have hc : Chg (fun k => k = w.heap.size) w2 (((w2.setCell ⟨w.heap.size, 0, none⟩ (.int .i64 1)).setCell ⟨w.heap.size, 1, none⟩ (.string ⟨t.text.toArray⟩)).setCell ⟨w.heap.size, 2, none⟩ (.int .i64 t.place)) := ((chg_set w2 _ 0 _).then (chg_set _ _ 1 _)).then (chg_set _ _ 2 _)
  refine ⟨((Chg.of_kept (Hk0.out.trans Hk.out)).then Hn.out.1).trans hc (fun i hi e => by omega), Hn.out.2.chg hc fun k hk => ?_⟩
  subst hk
  exact ⟨HB, hne, by omega⟩
set_option maxRecDepth 100000 in
theorem num_no {B G r d : Nat} {dp : Option Nat} {t : Tok} {us : List Tok} (w : World) (h : Rd B G w r (t :: us) d dp) (hk : t.kind ≠ 2) : Calls Tryz.prog 49 #[.pointer (some ⟨r, 0, none⟩)] w (Bad B w t.place) := by
  have HP := Lib.hid (peek_any w h)
  have HR := Lib.hid h
  have hb : ((t.kind : Int) != 2) = true := by rw [bne_iff_ne]; omega
  clear h hk
  go_enter Tryz.func49, Tryz.ntmps49
  go_upto_region 2 with (go_at_call 14; refine (HP.out).mono ?_; rintro e w1 ⟨rfl, Hk⟩)
  have HN := Lib.hid (refuse_any w1 (HR.out.kept Hk.out))
  go_wp2_with (go_at_call 17; refine (HN.out).mono ?_; rintro e w2 ⟨rfl, Hn⟩)
  exact ⟨rfl, rfl, Lib.hid (Below.mono (Hk.out.trans Hn.out) HR.out.size)⟩
theorem lst_mk (l : List UInt8) : Lex.lst ⟨l.toArray⟩ = l := by simp [Lex.lst]
theorem num_val (l : List UInt8) : ∃ b : Bool, Lex.numV (Lex.readF l) = .tuple #[.int .i64 (numF l).1, .int .i64 (numF l).2, .bool b] := by
  unfold numF
  cases Lex.readF l with
  | ok v u => exact ⟨true, by cases u <;> rfl⟩
  | bad b => exact ⟨false, rfl⟩
set_option maxRecDepth 100000 in
theorem num_yes {B G r d : Nat} {dp : Option Nat} {t : Tok} {us : List Tok} (w : World) (h : Rd B G w r (t :: us) d dp) (hk : t.kind = 2) : Calls Tryz.prog 49 #[.pointer (some ⟨r, 0, none⟩)] w fun e w' => e = .returned (.tuple #[.int .i64 (numF t.text).1, .int .i64 (numF t.text).2]) ∧ Hid (Chg (fun k => k = r) w w' ∧ Rd B G w' r us d dp) := by
  have HP := Lib.hid (peek_any w h)
  have HR := Lib.hid h
  have hlen := (h.small t (by simp)).1
  rw [hk] at HP
  have Hkk := Lib.hid hk
  clear h hk
  obtain ⟨b, hb⟩ := num_val t.text
  have Hb := Lib.hid hb
  clear hb
  have HM : Hid (∀ w2, Rd B G w2 r us d dp → Calls Tryz.prog 63 #[.string ⟨t.text.toArray⟩] w2 fun e w' => e = .returned (.tuple #[.int .i64 (numF t.text).1, .int .i64 (numF t.text).2, .bool b]) ∧ Hid (Kept w2 w')) := Lib.hid fun w2 h2 => by
    obtain ⟨pL, pW, hl, _⟩ := h2.laid
    refine (Lex.Number_any ⟨t.text.toArray⟩ w2 pL pW hl (by simp [ByteArray.size]; omega)).mono ?_
    rintro e w' ⟨rfl, n, rfl⟩
    rw [lst_mk, Hb.out]
    exact ⟨rfl, Lib.hid ((Kept.refl w2).drewN n)⟩
  generalize (numF t.text).1 = v1 at *
  generalize (numF t.text).2 = v2 at *
  go_enter Tryz.func49, Tryz.ntmps49
  go_upto_region 3 with (go_at_call 14; refine (HP.out).mono ?_; rintro e w1 ⟨rfl, Hk⟩)
  have HN := Lib.hid (next_any w1 (HR.out.kept Hk.out))
  go_wp2_with (first | (go_at_call 46; refine (HN.out).mono ?_; rintro e w2 ⟨rfl, Hn⟩) | (go_at_call 63; refine (HM.out _ Hn.out.2).mono ?_; rintro e w3 ⟨rfl, Hm⟩))
  go_ret2
  exact ⟨rfl, Lib.hid ⟨((Chg.of_kept Hk.out).then Hn.out.1).keep Hm.out, Hn.out.2.kept Hm.out⟩⟩
theorem operator_any (s : List UInt8) (w : World) : Calls Tryz.prog 98 #[.string ⟨s.toArray⟩] w fun e w' => e = .returned (.tuple #[.int .i64 (opF s).1, .int .i64 (if (opF s).2 = 9 then -1 else ((opF s).2 : Int))]) ∧ w = w' := by
  go_enter Tryz.func98, Tryz.ntmps98
  go_wp2
  all_goals
    go_ret2
    refine ⟨?_, rfl⟩
    simp_all [opF]
theorem relation_any (s : List UInt8) (w : World) : Calls Tryz.prog 100 #[.string ⟨s.toArray⟩] w fun e w' => e = .returned (.int .i64 (relF s)) ∧ w = w' := by
  go_enter Tryz.func100, Tryz.ntmps100
  go_wp2
  all_goals
    go_ret
    refine ⟨?_, rfl⟩
    simp_all [relF]
theorem read_any (s : List UInt8) (w : World) : Calls Tryz.prog 47 #[.string ⟨s.toArray⟩] w fun e w' => e = .returned (.int .i64 (readT s)) ∧ w = w' := by
  go_enter Tryz.func47, Tryz.ntmps47
  go_wp2
  all_goals
    go_ret
    refine ⟨?_, rfl⟩
    simp_all [readT]
set_option maxRecDepth 100000 in
theorem type_no {B G r d : Nat} {dp : Option Nat} {t : Tok} {us : List Tok} (w : World) (h : Rd B G w r (t :: us) d dp) (hk : readT t.text = 0) : Calls Tryz.prog 25 #[.pointer (some ⟨r, 0, none⟩)] w (Bad B w t.place) := by
  have HP := Lib.hid (peek_any w h)
  have HR := Lib.hid h
  have HT := Lib.hid (read_any t.text)
  rw [hk] at HT
  clear h hk
  go_enter Tryz.func25, Tryz.ntmps25
  go_upto_region 3 with (first | (go_at_call 14; refine (HP.out).mono ?_; rintro e w1 ⟨rfl, Hk⟩) | (go_at_call 47; refine (HT.out _).mono ?_; rintro e w' ⟨rfl, rfl⟩))
  have HN := Lib.hid (refuse_any w1 (HR.out.kept Hk.out))
  go_wp2_with (go_at_call 17; refine (HN.out).mono ?_; rintro e w2 ⟨rfl, Hn⟩)
  exact ⟨rfl, rfl, Lib.hid (Below.mono (Hk.out.trans Hn.out) HR.out.size)⟩
set_option maxRecDepth 100000 in
theorem type_yes {B G r d : Nat} {dp : Option Nat} {t : Tok} {us : List Tok} (w : World) (h : Rd B G w r (t :: us) d dp) (hk : readT t.text ≠ 0) : Calls Tryz.prog 25 #[.pointer (some ⟨r, 0, none⟩)] w fun e w' => e = .returned (.int .i64 (readT t.text)) ∧ Hid (Chg (fun k => k = r) w w' ∧ Rd B G w' r us d dp) := by
  have HP := Lib.hid (peek_any w h)
  have HR := Lib.hid h
  have HT := Lib.hid (read_any t.text)
  generalize readT t.text = T at *
  have hb : ((T : Int) == 0) = false := by simp; omega
  clear h hk
  go_enter Tryz.func25, Tryz.ntmps25
  go_upto_region 4 with (first | (go_at_call 14; refine (HP.out).mono ?_; rintro e w1 ⟨rfl, Hk⟩) | (go_at_call 47; refine (HT.out _).mono ?_; rintro e w' ⟨rfl, rfl⟩))
  have HN := Lib.hid (next_any w1 (HR.out.kept Hk.out))
  go_wp2_with (go_at_call 46; refine (HN.out).mono ?_; rintro e w2 ⟨rfl, Hn⟩)
  go_ret
  exact ⟨rfl, Lib.hid ⟨(Chg.of_kept Hk.out).then Hn.out.1, Hn.out.2⟩⟩
end Go.Proofs.YtoafcpbpnkfhoaaGreatDoor.Prs
