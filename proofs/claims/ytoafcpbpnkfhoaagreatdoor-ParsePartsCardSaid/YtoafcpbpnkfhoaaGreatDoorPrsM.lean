/-
  Contracts of what reads a global (sizeIfAny without brackets, start, global), where the text is one.
-/
import Derived.Test.YtoafcpbpnkfhoaaGreatDoorPrsL
namespace Go.Proofs.YtoafcpbpnkfhoaaGreatDoor.Prs
open Go.RowKit
open Lex (Tok Laid)
attribute [local go_sem] tok0 tok1 tok2

structure Gl where
  name : List UInt8
  ty : Nat
  size : Nat
  init : Int
  place : Nat
deriving DecidableEq
theorem numF_le (l : List UInt8) : (numF l).1 ≤ 4294967295 := by
  unfold numF Lex.readF Lex.readN
  split
  · rename_i v u h
    split at h
    · cases h
    · split at h
      · cases h
      · split at h
        · cases h
        · split at h
          · cases h
          · injection h with h1 h2
            subst h1
            rename_i h3 _
            have : Lex.maxN (Lex.hasU l) ≤ 4294967295 := by unfold Lex.maxN; split <;> omega
            simp; omega
  · simp
section
variable {B G r d : Nat} {dp : Option Nat} {us : List Tok}
set_option maxRecDepth 100000 in
theorem sizeIfAny_no {t : Tok} (w : World) (h : Rd B G w r (t :: us) d dp) (hs : t.text ≠ [91]) : Calls Tryz.prog 26 #[.pointer (some ⟨r, 0, none⟩)] w fun e w' => e = .returned (.int .i64 0) ∧ Hid (Kept w w') := by
  have HI := Lib.hid (is_no w h hs)
  clear h hs
  go_enter Tryz.func26, Tryz.ntmps26
  go_wp2_with (go_at_call 45; refine (HI.out).mono ?_; rintro e w1 ⟨rfl, Hk⟩)
  go_ret
  exact ⟨rfl, Hk⟩
set_option maxRecDepth 100000 in
theorem start_pos {t : Tok} (w : World) (h : Rd B G w r (t :: us) d dp) (hs : t.text ≠ [45]) (hk : t.kind = 2) : Calls Tryz.prog 28 #[.pointer (some ⟨r, 0, none⟩)] w fun e w' => e = .returned (.int .i64 (numF t.text).1) ∧ Hid (Chg (fun k => k = r) w w' ∧ Rd B G w' r us d dp) := by
  have HI := Lib.hid (skip_no w h hs)
  have HR := Lib.hid h
  have Hk := Lib.hid hk
  clear h hs hk
  go_enter Tryz.func28, Tryz.ntmps28
  go_upto_region 2 with (go_at_call 27; refine (HI.out).mono ?_; rintro e w1 ⟨rfl, H1⟩)
  have HN := Lib.hid (num_yes _ (HR.out.kept H1.out) Hk.out)
  go_wp2_with (go_at_call 49; refine (HN.out).mono ?_; rintro e w2 ⟨rfl, H2⟩)
  go_ret
  exact ⟨rfl, Lib.hid ⟨(Chg.of_kept H1.out).then H2.out.1, H2.out.2⟩⟩
set_option maxRecDepth 100000 in
theorem start_neg {m t : Tok} (w : World) (h : Rd B G w r (m :: t :: us) d dp) (hs : m.text = [45]) (hk : t.kind = 2) : Calls Tryz.prog 28 #[.pointer (some ⟨r, 0, none⟩)] w fun e w' => e = .returned (.int .i64 (-((numF t.text).1 : Int))) ∧ Hid (Chg (fun k => k = r) w w' ∧ Rd B G w' r us d dp) := by
  have HI := Lib.hid (skip_yes w h hs)
  have Hk := Lib.hid hk
  have hn := numF_le t.text
  clear h hs hk
  go_enter Tryz.func28, Tryz.ntmps28
  go_upto_region 2 with (go_at_call 27; refine (HI.out).mono ?_; rintro e w1 ⟨rfl, H1⟩)
  have HN := Lib.hid (num_yes _ H1.out.2 Hk.out)
  go_wp2_with (go_at_call 49; refine (HN.out).mono ?_; rintro e w2 ⟨rfl, H2⟩)
  go_ret
  exact ⟨rfl, Lib.hid ⟨H1.out.1.then H2.out.1, H2.out.2⟩⟩
theorem num_not_minus {t : Tok} (hk : t.text = [45]) : numF t.text = (0, 0) := by rw [hk]; rfl

theorem chg_set5 (w : World) (b : Nat) (u0 u1 u2 u3 u4 : Value) : Chg (fun k => k = b) w (((((w.setCell ⟨b, 0, none⟩ u0).setCell ⟨b, 1, none⟩ u1).setCell ⟨b, 2, none⟩ u2).setCell ⟨b, 3, none⟩ u3).setCell ⟨b, 4, none⟩ u4) :=
  ((((chg_set w b 0 u0).then (chg_set _ b 1 u1)).then (chg_set _ b 2 u2)).then (chg_set _ b 3 u3)).then (chg_set _ b 4 u4)
def glV (g : Gl) : Array Value := #[.string ⟨g.name.toArray⟩, .int .i64 g.ty, .int .i64 g.size, .int .i64 g.init, .int .i64 g.place]
set_option maxRecDepth 100000 in
set_option maxHeartbeats 4000000 in
/-- A scalar with a first value: the value's tokens 'vs' are read by start. -/
theorem global_init {tg tn tc tt te ts : Tok} {vs : List Tok} {n : Int} (w : World) (h : Rd B G w r (tg :: tn :: tc :: tt :: te :: vs) d dp) (hg : tg.text = [103, 108, 111, 98, 97, 108]) (hn : tn.kind = 1) (hc : tc.text = [58]) (ht : readT tt.text ≠ 0) (he : te.text = [61]) (hs : ts.text = [59])
    (hv : ∀ w1, Rd B G w1 r vs d dp → Calls Tryz.prog 28 #[.pointer (some ⟨r, 0, none⟩)] w1 fun e w' => e = .returned (.int .i64 n) ∧ Hid (Chg (fun k => k = r) w1 w' ∧ Rd B G w' r (ts :: us) d dp)) :
    Calls Tryz.prog 15 #[.pointer (some ⟨r, 0, none⟩)] w fun e w' => e = .returned (.agg #[.string ⟨tn.text.toArray⟩, .int .i64 (readT tt.text), .int .i64 0, .int .i64 n, .int .i64 tn.place]) ∧ Hid (Chg (fun k => k = r) w w' ∧ Rd B G w' r us d dp) := by
  have hb : te.text ≠ [91] := by rw [he]; decide
  have hk0 := (Kept.refl w).alloc (.cells #[.string ⟨#[]⟩, .int .i64 0, .int .i64 0, .int .i64 0, .int .i64 0] 33)
  have H1 := Lib.hid (take_yes _ (h.kept hk0) hg)
  have HV := Lib.hid hv
  have Hn := Lib.hid hn
  have Hc := Lib.hid hc
  have Ht := Lib.hid ht
  have He := Lib.hid he
  have Hs := Lib.hid hs
  have Hb := Lib.hid hb
  have Hk0 := Lib.hid hk0
  have hB := h.size
  have hrw := h.lt
  have hGw := h.ltG
  have B0 := Lib.hid (heap_alloc_new w (.cells #[.string ⟨#[]⟩, .int .i64 0, .int .i64 0, .int .i64 0, .int .i64 0] 33))
  clear h hg hn hc ht he hs hv hb hk0
  have HTy := Lib.hid (fun (w3 : World) (h3 : Rd B G w3 r (tt :: te :: vs) d dp) => type_yes w3 h3 Ht.out)
  clear Ht
  generalize readT tt.text = T at *
  go_enter Tryz.func15, Tryz.ntmps15
  go_upto_region 2 with (go_at_call 23; refine (H1.out).mono ?_; rintro e w1 ⟨rfl, K1⟩)
  have H2 := Lib.hid (name_yes _ K1.out.2 Hn.out)
  rw [Hn.out] at H2
  go_upto_region 4 with (go_at_call 24; refine (H2.out).mono ?_; rintro e w2 ⟨rfl, K2⟩)
  have hs2 : w.heap.size + 1 ≤ w2.heap.size := by have a := K1.out.1.size; have b := K2.out.1.size; simp at a; omega
  have KA : Kept w2 ((w2.alloc (.cells #[.int .i64 1, .string ⟨tn.text.toArray⟩, .int .i64 tn.place] 62)).alloc (.cells #[.string ⟨tn.text.toArray⟩, .int .i64 0, .int .i64 0, .int .i64 0, .int .i64 tn.place] 33)) := ((Kept.refl w2).alloc _).alloc _
  have RA := K2.out.2.kept KA
  have hbA : ((w2.alloc (.cells #[.int .i64 1, .string ⟨tn.text.toArray⟩, .int .i64 tn.place] 62)).alloc (.cells #[.string ⟨tn.text.toArray⟩, .int .i64 0, .int .i64 0, .int .i64 0, .int .i64 tn.place] 33)).heap[w2.heap.size + 1]? = some (.cells #[.string ⟨tn.text.toArray⟩, .int .i64 0, .int .i64 0, .int .i64 0, .int .i64 tn.place] 33 (0, 0)) := by
    have := heap_alloc_new (w2.alloc (.cells #[.int .i64 1, .string ⟨tn.text.toArray⟩, .int .i64 tn.place] 62)) (.cells #[.string ⟨tn.text.toArray⟩, .int .i64 0, .int .i64 0, .int .i64 0, .int .i64 tn.place] 33)
    simpa using this
  have hb0A := ((K1.out.1.then K2.out.1).keep KA).heap B0.out (by omega)
  have cA := ((Chg.of_kept Hk0.out).then (K1.out.1.then K2.out.1)).keep KA
  have n1 : w2.heap.size + 1 ≠ r := by omega
  have n2 : w2.heap.size + 1 ≠ G := by omega
  have n3 : B ≤ w2.heap.size + 1 := by omega
  have nb : w.heap.size < w2.heap.size + 1 := by omega
  have HRA := Lib.hid RA
  have HbA := Lib.hid hbA
  have Hb0A := Lib.hid hb0A
  have HcA := Lib.hid cA
  clear KA RA hbA hb0A cA K1 K2 H1 H2 B0
  generalize (w2.alloc (.cells #[.int .i64 1, .string ⟨tn.text.toArray⟩, .int .i64 tn.place] 62)).alloc (.cells #[.string ⟨tn.text.toArray⟩, .int .i64 0, .int .i64 0, .int .i64 0, .int .i64 tn.place] 33) = wA at *
  generalize w2.heap.size + 1 = b at *
  have H3 := Lib.hid (take_yes wA HRA.out Hc.out)
  go_upto_region 5 with (go_at_call 23; refine (H3.out).mono ?_; rintro e w3 ⟨rfl, K3⟩)
  have H4 := Lib.hid (HTy.out w3 K3.out.2)
  go_upto_region 6 with (go_at_call 25; refine (H4.out).mono ?_; rintro e w4 ⟨rfl, K4⟩; have hb4 := (K3.out.1.then K4.out.1).heap HbA.out n1; have z1 := box_cell hb4 1 _ rfl; have zf := box_froz hb4; have Hb4 := Lib.hid hb4; clear hb4)
  have R5 := Lib.hid (K4.out.2.setb n3 n1 n2 1 (.int .i64 T))
  have H5 := Lib.hid (sizeIfAny_no _ R5.out Hb.out)
  have Hb5 := Lib.hid (heap_setCell_same _ _ 1 _ _ (.int .i64 T) Hb4.out)
  go_upto_region 7 with (go_at_call 26; refine (H5.out).mono ?_; rintro e w5 ⟨rfl, K5⟩; have hb6 := (Below.block K5.out _ (box_lt Hb5.out)).trans Hb5.out; have x2 := box_cell hb6 2 _ rfl; have xf := box_froz hb6; have Hb6 := Lib.hid hb6; clear hb6)
  have R6 := Lib.hid ((R5.out.kept K5.out).setb n3 n1 n2 2 (.int .i64 0))
  have H6 := Lib.hid (skip_yes _ R6.out He.out)
  have Hb7 := Lib.hid (heap_setCell_same _ _ 2 _ _ (.int .i64 0) Hb6.out)
  go_upto_region 8 with (go_at_call 27; refine (H6.out).mono ?_; rintro e w6 ⟨rfl, K6⟩)
  have H7 := Lib.hid (HV.out w6 K6.out.2)
  go_upto_region 9 with (go_at_call 28; refine (H7.out).mono ?_; rintro e w7 ⟨rfl, K7⟩; have hb8 := (K6.out.1.then K7.out.1).heap Hb7.out n1; have y3 := box_cell hb8 3 _ rfl; have yf := box_froz hb8; have Hb8 := Lib.hid hb8; clear hb8)
  have R8 := Lib.hid (K7.out.2.setb n3 n1 n2 3 (.int .i64 n))
  have H8 := Lib.hid (take_yes _ R8.out Hs.out)
  have Hb9 := Lib.hid (heap_setCell_same _ _ 3 _ _ (.int .i64 n) Hb8.out)
  have c39 := ((((((K3.out.1.then K4.out.1).mono (T := fun k => k = r ∨ k = b) (fun _ _ e => .inl e)).trans (chg_set _ b 1 (.int .i64 T)) (fun _ _ e => .inr e)).keep K5.out).trans (chg_set _ b 2 (.int .i64 0)) (fun _ _ e => .inr e)).trans (K6.out.1.then K7.out.1) (fun _ _ e => .inl e)).trans (chg_set _ b 3 (.int .i64 n)) (fun _ _ e => .inr e)
  have Hb09 := Lib.hid (c39.heap Hb0A.out (by omega))
  have C39 := Lib.hid c39
  clear c39
  go_upto_region 10 with (go_at_call 23; refine (H8.out).mono ?_; rintro e w8 ⟨rfl, K8⟩)
  have hb := K8.out.1.heap Hb9.out n1
  have hb0 := K8.out.1.heap Hb09.out (by omega)
  have o0 := box_cell hb 0 _ rfl
  have o1 := box_cell hb 1 _ rfl
  have o2 := box_cell hb 2 _ rfl
  have o3 := box_cell hb 3 _ rfl
  have o4 := box_cell hb 4 _ rfl
  have l0 := box_cell hb0 0 _ rfl
  have l1 := box_cell hb0 1 _ rfl
  have l2 := box_cell hb0 2 _ rfl
  have l3 := box_cell hb0 3 _ rfl
  have l4 := box_cell hb0 4 _ rfl
  have lf := box_froz hb0
  clear hb hb0
  go_wp2
  refine bodyPost_ret (v := .agg #[.string ⟨tn.text.toArray⟩, .int .i64 T, .int .i64 0, .int .i64 n, .int .i64 tn.place]) ?_ rfl ⟨rfl, Lib.hid ?_⟩
  · simp [results, Tryz.results15, go_sem, l0, l1, l2, l3, l4]
  have c5 := chg_set5 w8 w.heap.size (.string ⟨tn.text.toArray⟩) (.int .i64 T) (.int .i64 0) (.int .i64 n) (.int .i64 tn.place)
  refine ⟨((HcA.out.trans C39.out (fun i hi e => by omega)).then K8.out.1).trans c5 (fun i hi e => by omega), K8.out.2.chg c5 (fun k e => by subst e; exact ⟨hB, by omega, by omega⟩)⟩
end
end Go.Proofs.YtoafcpbpnkfhoaaGreatDoor.Prs
