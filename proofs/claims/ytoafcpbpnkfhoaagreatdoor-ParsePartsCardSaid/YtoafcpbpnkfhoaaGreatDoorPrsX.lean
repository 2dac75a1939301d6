/-
  Contracts of params (none), clauses (none) and function, where the text is so.
-/
import Derived.Test.YtoafcpbpnkfhoaaGreatDoorPrsU
import Derived.Deep.RegionHeld3
namespace Go.Proofs.YtoafcpbpnkfhoaaGreatDoor.Prs
open Go.RowKit
open Lex (Tok Laid)
attribute [local go_sem] tok0 tok1 tok2
section
variable {B G r d : Nat} {dp : Option Nat} {us : List Tok}
set_option maxRecDepth 100000 in
theorem params_nil {t s : Tok} (w : World) (h : Rd B G w r (t :: s :: us) d dp) (ht : t.text = [40]) (hs : s.text = [41]) : Calls Tryz.prog 29 #[.pointer (some ⟨r, 0, none⟩)] w fun e w' => e = .returned (.slice none 0 0) ∧ Hid (Chg (fun k => k = r) w w' ∧ Rd B G w' r us d dp) := by
  have H1 := Lib.hid (take_yes w h ht)
  have Hs := Lib.hid hs
  clear h ht hs
  go_enter Tryz.func29, Tryz.ntmps29
  go_upto_region 2 with (go_at_call 23; refine (H1.out).mono ?_; rintro e w1 ⟨rfl, K1⟩)
  have H2 := Lib.hid (skip_yes _ K1.out.2 Hs.out)
  go_wp2_with (go_at_call 27; refine (H2.out).mono ?_; rintro e w2 ⟨rfl, K2⟩)
  go_ret
  exact ⟨rfl, Lib.hid ⟨K1.out.1.then K2.out.1, K2.out.2⟩⟩
set_option maxRecDepth 100000 in
set_option maxHeartbeats 2000000 in
theorem clauses_none {t : Tok} {v : Value} (w : World) (h : Rd B G w r (t :: us) d dp) (h1 : t.text ≠ [114, 101, 113, 117, 105, 114, 101, 115]) (h2 : t.text ≠ [101, 110, 115, 117, 114, 101, 115]) (h3 : t.text ≠ [97, 115, 115, 105, 103, 110, 115]) : Calls Tryz.prog 30 #[.pointer (some ⟨r, 0, none⟩), v] w fun e w' => e = .returned (.tuple #[]) ∧ Hid (Kept w w') := by
  have HP := Lib.hid (peek_any w h)
  have b1 : (t.text == [114, 101, 113, 117, 105, 114, 101, 115]) = false := by simpa using h1
  have b2 : (t.text == [101, 110, 115, 117, 114, 101, 115]) = false := by simpa using h2
  have b3 : (t.text == [97, 115, 115, 105, 103, 110, 115]) = false := by simpa using h3
  clear h h1 h2 h3
  go_enter Tryz.func30, Tryz.ntmps30
  go_wp2_with fail
  go_step3
  go_wp2_with fail
  go_step3
  go_wp2_with fail
  go_loopg [4] 1 (fun _ _ wx => wx = w)
  case atStart => rfl
  case round =>
    subst hrel
    go_wp2_with (go_at_call 14; refine (HP.out).mono ?_; rintro e w1 ⟨rfl, K1⟩)
    simp only [Exit.noGoto]
    go_end0
    exact ⟨rfl, K1⟩
end
def functionF (f : Nat) : FnF := fun us d dp =>
  match us with
  | tf :: tn :: po :: pc :: t :: us =>
    if tf.text = [102, 110] ∧ tn.kind = 1 ∧ po.text = [40] ∧ pc.text = [41] ∧ t.text = [123] then
      match blockF f (t :: us) d dp with
      | some (us', dp', l) => some (us', dp', ⟨tn.text, tn.place, 0, 0, 0, 0, l⟩)
      | none => none
    else none
  | _ => none
theorem chg_set8 (w : World) (b : Nat) (u0 u1 u2 u3 u4 u5 u6 u7 : Value) : Chg (fun k => k = b) w ((((((((w.setCell ⟨b, 0, none⟩ u0).setCell ⟨b, 1, none⟩ u1).setCell ⟨b, 2, none⟩ u2).setCell ⟨b, 3, none⟩ u3).setCell ⟨b, 4, none⟩ u4).setCell ⟨b, 5, none⟩ u5).setCell ⟨b, 6, none⟩ u6).setCell ⟨b, 7, none⟩ u7) :=
  (((((((chg_set w b 0 u0).then (chg_set _ b 1 u1)).then (chg_set _ b 2 u2)).then (chg_set _ b 3 u3)).then (chg_set _ b 4 u4)).then (chg_set _ b 5 u5)).then (chg_set _ b 6 u6)).then (chg_set _ b 7 u7)
/-- Behind the parameters: the function's own variable is made. -/
structure FnMid (B G r d : Nat) (dp : Option Nat) (us : List Tok) (tn : Tok) (w wx : World) (b : Nat) : Prop where
  box : wx.heap[b]? = some (.cells #[.string ⟨tn.text.toArray⟩, .int .i64 tn.place, .slice none 0 0, .int .i64 0, .slice none 0 0, .slice none 0 0, .slice none 0 0, .slice none 0 0] 38 (0, 0))
  b0 : wx.heap[w.heap.size]? = some (.cells #[.string ⟨#[]⟩, .int .i64 0, .slice none 0 0, .int .i64 0, .slice none 0 0, .slice none 0 0, .slice none 0 0, .slice none 0 0] 38 (0, 0))
  rd : Rd B G wx r us d dp
  chg : Chg (fun k => k = r) w wx
  far : b ≠ r ∧ b ≠ G ∧ B ≤ b ∧ w.heap.size < b
theorem mid_new {B G r d : Nat} {dp : Option Nat} {us : List Tok} {tn : Tok} {w w3 : World} (hb : w3.heap[w.heap.size]? = some (.cells #[.string ⟨#[]⟩, .int .i64 0, .slice none 0 0, .int .i64 0, .slice none 0 0, .slice none 0 0, .slice none 0 0, .slice none 0 0] 38 (0, 0))) (hr : Rd B G w3 r us d dp) (hc : Chg (fun k => k = r) w w3) : FnMid B G r d dp us tn w (w3.alloc (.cells #[.string ⟨tn.text.toArray⟩, .int .i64 tn.place, .slice none 0 0, .int .i64 0, .slice none 0 0, .slice none 0 0, .slice none 0 0, .slice none 0 0] 38)) w3.heap.size :=
  ⟨heap_alloc_new _ _, (Below.heap_alloc _ _ _ (box_lt hb)).trans hb, hr.kept ((Kept.refl _).alloc _), hc.alloc _, by have := hr.lt; have := hr.ltG; have := hr.size; have := box_lt hb; omega⟩
theorem mid_old {B G r d b : Nat} {dp : Option Nat} {us : List Tok} {tn : Tok} {w w3 : World} (hb : w3.heap[w.heap.size]? = some (.cells #[.string ⟨#[]⟩, .int .i64 0, .slice none 0 0, .int .i64 0, .slice none 0 0, .slice none 0 0, .slice none 0 0, .slice none 0 0] 38 (0, 0))) (hx : w3.heap[b]? = some (.cells #[.string ⟨#[]⟩, .int .i64 0, .slice none 0 0, .int .i64 0, .slice none 0 0, .slice none 0 0, .slice none 0 0, .slice none 0 0] 38 (0, 0))) (hr : Rd B G w3 r us d dp) (hc : Chg (fun k => k = r) w w3) (hn : b ≠ r ∧ b ≠ G ∧ B ≤ b ∧ w.heap.size < b) :
    FnMid B G r d dp us tn w ((((((((w3.setCell ⟨b, 0, none⟩ (.string ⟨tn.text.toArray⟩)).setCell ⟨b, 1, none⟩ (.int .i64 tn.place)).setCell ⟨b, 2, none⟩ (.slice none 0 0)).setCell ⟨b, 3, none⟩ (.int .i64 0)).setCell ⟨b, 4, none⟩ (.slice none 0 0)).setCell ⟨b, 5, none⟩ (.slice none 0 0)).setCell ⟨b, 6, none⟩ (.slice none 0 0)).setCell ⟨b, 7, none⟩ (.slice none 0 0)) b := by
  have c := chg_set8 w3 b (.string ⟨tn.text.toArray⟩) (.int .i64 tn.place) (.slice none 0 0) (.int .i64 0) (.slice none 0 0) (.slice none 0 0) (.slice none 0 0) (.slice none 0 0)
  refine ⟨?_, c.heap hb (by omega), hr.chg c (fun k e => by subst e; exact ⟨hn.2.2.1, hn.1, hn.2.1⟩), hc.trans c (fun i hi e => by omega), hn⟩
  rw [heap_setCell_same _ _ _ _ _ _ (heap_setCell_same _ _ _ _ _ _ (heap_setCell_same _ _ _ _ _ _ (heap_setCell_same _ _ _ _ _ _ (heap_setCell_same _ _ _ _ _ _ (heap_setCell_same _ _ _ _ _ _ (heap_setCell_same _ _ _ _ _ _ (heap_setCell_same _ _ _ _ _ _ hx)))))))]
  simp
set_option maxRecDepth 100000 in
set_option maxHeartbeats 4000000 in
theorem function_said (f : Nat) : FnSaid (functionF f) := by
  intro B G r d us us' dp dp' fn w h hs
  unfold functionF at hs
  split at hs
  case h_2 => cases hs
  rename_i tf tn po pc t us
  split at hs
  case isFalse => cases hs
  rename_i hc
  obtain ⟨h1, h2, h3, h4, h5⟩ := hc
  cases hb : blockF f (t :: us) d dp with
  | none => rw [hb] at hs; cases hs
  | some p =>
    obtain ⟨us2, dp2, l⟩ := p
    rw [hb] at hs
    simp only [Option.some.injEq, Prod.mk.injEq] at hs
    obtain ⟨rfl, rfl, rfl⟩ := hs
    have hk0 := (Kept.refl w).alloc (.cells #[.string ⟨#[]⟩, .int .i64 0, .slice none 0 0, .int .i64 0, .slice none 0 0, .slice none 0 0, .slice none 0 0, .slice none 0 0] 38)
    have H1 := Lib.hid (take_yes _ (h.kept hk0) h1)
    have B0 := Lib.hid (heap_alloc_new w (.cells #[.string ⟨#[]⟩, .int .i64 0, .slice none 0 0, .int .i64 0, .slice none 0 0, .slice none 0 0, .slice none 0 0, .slice none 0 0] 38))
    have Hk0 := Lib.hid hk0
    have Hn := Lib.hid h2
    have Ho := Lib.hid h3
    have Hp := Lib.hid h4
    have Hb := Lib.hid hb
    have g1 := Lib.hid (show t.text ≠ [58] by rw [h5]; decide)
    have g2 := Lib.hid (show t.text ≠ [114, 101, 113, 117, 105, 114, 101, 115] by rw [h5]; decide)
    have g3 := Lib.hid (show t.text ≠ [101, 110, 115, 117, 114, 101, 115] by rw [h5]; decide)
    have g4 := Lib.hid (show t.text ≠ [97, 115, 115, 105, 103, 110, 115] by rw [h5]; decide)
    have hB := h.size
    have hrw := h.lt
    have hGw := h.ltG
    clear h hk0 h1 h2 h3 h4 h5 hb
    go_enter Tryz.func16, Tryz.ntmps16
    go_upto_region 2 with (go_at_call 23; refine (H1.out).mono ?_; rintro e w1 ⟨rfl, K1⟩)
    have H2 := Lib.hid (name_yes _ K1.out.2 Hn.out)
    rw [Hn.out] at H2
    go_upto_region 3 with (go_at_call 24; refine (H2.out).mono ?_; rintro e w2 ⟨rfl, K2⟩)
    have hs2 : w.heap.size + 1 ≤ w2.heap.size := by have a := K1.out.1.size; have b := K2.out.1.size; simp at a; omega
    have kA : Kept w2 (w2.alloc (.cells #[.int .i64 1, .string ⟨tn.text.toArray⟩, .int .i64 tn.place] 62)) := (Kept.refl w2).alloc _
    have H3 := Lib.hid (params_nil _ ((K2.out.2.kept kA).kept (Kept.refl _).drew) Ho.out Hp.out)
    have T2 := Lib.hid (heap_alloc_new w2 (.cells #[.int .i64 1, .string ⟨tn.text.toArray⟩, .int .i64 tn.place] 62))
    have B2 := Lib.hid (((K1.out.1.then K2.out.1).keep kA).heap B0.out (by omega))
    have n1 : w2.heap.size ≠ r := by omega
    have HkA := Lib.hid kA
    clear kA
    have kB : Kept w2 ((w2.alloc (.cells #[.int .i64 1, .string ⟨tn.text.toArray⟩, .int .i64 tn.place] 62)).alloc (.cells #[.string ⟨#[]⟩, .int .i64 0, .slice none 0 0, .int .i64 0, .slice none 0 0, .slice none 0 0, .slice none 0 0, .slice none 0 0] 38)) := ((Kept.refl w2).alloc _).alloc _
    have H3b := Lib.hid (params_nil _ ((K2.out.2.kept kB).kept (Kept.refl _).drew) Ho.out Hp.out)
    have F2 : Hid (((w2.alloc (.cells #[.int .i64 1, .string ⟨tn.text.toArray⟩, .int .i64 tn.place] 62)).alloc (.cells #[.string ⟨#[]⟩, .int .i64 0, .slice none 0 0, .int .i64 0, .slice none 0 0, .slice none 0 0, .slice none 0 0, .slice none 0 0] 38)).heap[w2.heap.size + 1]? = some (.cells #[.string ⟨#[]⟩, .int .i64 0, .slice none 0 0, .int .i64 0, .slice none 0 0, .slice none 0 0, .slice none 0 0, .slice none 0 0] 38 (0, 0))) := Lib.hid (by
      have := heap_alloc_new (w2.alloc (.cells #[.int .i64 1, .string ⟨tn.text.toArray⟩, .int .i64 tn.place] 62)) (.cells #[.string ⟨#[]⟩, .int .i64 0, .slice none 0 0, .int .i64 0, .slice none 0 0, .slice none 0 0, .slice none 0 0, .slice none 0 0] 38)
      simpa using this)
    have T2b := Lib.hid (show ((w2.alloc (.cells #[.int .i64 1, .string ⟨tn.text.toArray⟩, .int .i64 tn.place] 62)).alloc (.cells #[.string ⟨#[]⟩, .int .i64 0, .slice none 0 0, .int .i64 0, .slice none 0 0, .slice none 0 0, .slice none 0 0, .slice none 0 0] 38)).heap[w2.heap.size]? = some (.cells #[.int .i64 1, .string ⟨tn.text.toArray⟩, .int .i64 tn.place] 62 (0, 0)) from (Below.heap_alloc _ _ _ (by simp)).trans T2.out)
    have B2b := Lib.hid (((K1.out.1.then K2.out.1).keep kB).heap B0.out (by omega))
    have HkB := Lib.hid kB
    have n2 : w2.heap.size + 1 ≠ r := by omega
    clear kB
    go_cut [4] (fun x wx => ∃ b, x = .pointer (some ⟨b, 0, none⟩) ∧ FnMid B G r d dp (t :: us) tn w wx b)
    case first =>
      go_region_held3 (fun w' => w'.cell? ⟨w2.heap.size, 1, none⟩ = some (.string ⟨tn.text.toArray⟩) ∧ w'.cell? ⟨w2.heap.size, 2, none⟩ = some (.int .i64 tn.place))
        (first | go_keep | exact ⟨z1, z2⟩)
        (first
          | (go_at_call 29; refine (H3.out).mono ?_; rintro e w3 ⟨rfl, K3⟩; have ht3 := K3.out.1.heap T2.out n1; have z1 := box_cell ht3 1 _ rfl; have z2 := box_cell ht3 2 _ rfl; have hl3 := box_lt ht3; clear ht3)
          | (go_at_call 29; refine (H3b.out).mono ?_; rintro e w3 ⟨rfl, K3b⟩; have ht3 := K3b.out.1.heap T2b.out n1; have z1 := box_cell ht3 1 _ rfl; have z2 := box_cell ht3 2 _ rfl; clear ht3; have hf3 := K3b.out.1.heap F2.out n2; have y0 := box_cell hf3 0 _ rfl; have y1 := box_cell hf3 1 _ rfl; have y2 := box_cell hf3 2 _ rfl; have y3 := box_cell hf3 3 _ rfl; have y4 := box_cell hf3 4 _ rfl; have y5 := box_cell hf3 5 _ rfl; have y6 := box_cell hf3 6 _ rfl; have y7 := box_cell hf3 7 _ rfl; have yf := box_froz hf3; have Hf3 := Lib.hid hf3; clear hf3))
      all_goals go_wp2_with fail
      all_goals go_meet
      · have m1 : w3.heap[w.heap.size]? = some (.cells #[.string ⟨#[]⟩, .int .i64 0, .slice none 0 0, .int .i64 0, .slice none 0 0, .slice none 0 0, .slice none 0 0, .slice none 0 0] 38 (0, 0)) := K3.out.1.heap B2.out (by omega)
        have m0 : Chg (fun k => k = r) w (w2.alloc (.cells #[.int .i64 1, .string ⟨tn.text.toArray⟩, .int .i64 tn.place] 62)) := (((Chg.of_kept Hk0.out).then K1.out.1).then K2.out.1).keep HkA.out
        have m2 : Chg (fun k => k = r) w w3 := m0.drew.then K3.out.1
        have m3 := mid_new (tn := tn) m1 K3.out.2 m2
        exact ⟨w3.heap.size, rfl, m3⟩
      · have m1 : w3.heap[w.heap.size]? = some (.cells #[.string ⟨#[]⟩, .int .i64 0, .slice none 0 0, .int .i64 0, .slice none 0 0, .slice none 0 0, .slice none 0 0, .slice none 0 0] 38 (0, 0)) := K3b.out.1.heap B2b.out (by omega)
        have m0 : Chg (fun k => k = r) w ((w2.alloc (.cells #[.int .i64 1, .string ⟨tn.text.toArray⟩, .int .i64 tn.place] 62)).alloc (.cells #[.string ⟨#[]⟩, .int .i64 0, .slice none 0 0, .int .i64 0, .slice none 0 0, .slice none 0 0, .slice none 0 0, .slice none 0 0] 38)) := (((Chg.of_kept Hk0.out).then K1.out.1).then K2.out.1).keep HkB.out
        have m2 : Chg (fun k => k = r) w w3 := m0.drew.then K3b.out.1
        have hn : w2.heap.size + 1 ≠ r ∧ w2.heap.size + 1 ≠ G ∧ B ≤ w2.heap.size + 1 ∧ w.heap.size < w2.heap.size + 1 := by omega
        have m3 := mid_old (tn := tn) m1 Hf3.out K3b.out.2 m2 hn
        exact ⟨w2.heap.size + 1, rfl, m3⟩
    case rest =>
      obtain ⟨b, hx, hm⟩ := hcut
      subst hx
      have HM := Lib.hid hm
      have far := hm.far
      clear hm
      have H4 := Lib.hid (skip_no wc HM.out.rd g1.out)
      go_upto_region 6 with (go_at_call 27; refine (H4.out).mono ?_; rintro e w4 ⟨rfl, K4⟩)
      have H5 := Lib.hid (clauses_none (v := .pointer (some ⟨b, 0, none⟩)) w4 (HM.out.rd.kept K4.out) g2.out g3.out g4.out)
      go_upto_region 7 with (go_at_call 30; refine (H5.out).mono ?_; rintro e w5 ⟨rfl, K5⟩)
      have H6 := Lib.hid ((all_blocks f).1 w5 ((HM.out.rd.kept K4.out).kept K5.out) Hb.out)
      have K45 := Lib.hid (K4.out.trans K5.out)
      go_upto_region 8 with (go_at_call 31; refine (H6.out).mono ?_; rintro e w6 ⟨ab, cb, rfl, K6⟩; have hx6 := K6.out.1.heap ((Below.block K45.out _ (box_lt HM.out.box)).trans HM.out.box) far.1; have z7 := box_cell hx6 7 _ rfl; have zf := box_froz hx6; have X6 := Lib.hid hx6; clear hx6)
      have b6 := Lib.hid (K6.out.1.heap ((Below.block K45.out _ (box_lt HM.out.b0)).trans HM.out.b0) (by omega))
      have y0 := box_cell X6.out 0 _ rfl
      have y1 := box_cell X6.out 1 _ rfl
      have y2 := box_cell X6.out 2 _ rfl
      have y3 := box_cell X6.out 3 _ rfl
      have y4 := box_cell X6.out 4 _ rfl
      have y5 := box_cell X6.out 5 _ rfl
      have y6 := box_cell X6.out 6 _ rfl
      have l0 := box_cell b6.out 0 _ rfl
      have l1 := box_cell b6.out 1 _ rfl
      have l2 := box_cell b6.out 2 _ rfl
      have l3 := box_cell b6.out 3 _ rfl
      have l4 := box_cell b6.out 4 _ rfl
      have l5 := box_cell b6.out 5 _ rfl
      have l6 := box_cell b6.out 6 _ rfl
      have l7 := box_cell b6.out 7 _ rfl
      have lf := box_froz b6.out
      have nb : ¬ w.heap.size = b := by omega
      have nb' : ¬ b = w.heap.size := by omega
      go_wp2
      have c1 := chg_set w6 b 7 (.slice ab l.length cb)
      have c8 := chg_set8 (w6.setCell ⟨b, 7, none⟩ (.slice ab l.length cb)) w.heap.size (.string ⟨tn.text.toArray⟩) (.int .i64 tn.place) (.slice none 0 0) (.int .i64 0) (.slice none 0 0) (.slice none 0 0) (.slice none 0 0) (.slice ab l.length cb)
      have cT := (c1.mono (T := fun k => k = b ∨ k = w.heap.size) (fun _ _ e => .inl e)).trans c8 (fun _ _ e => .inr e)
      refine bodyPost_ret (v := .agg #[.string ⟨tn.text.toArray⟩, .int .i64 tn.place, .slice none 0 0, .int .i64 0, .slice none 0 0, .slice none 0 0, .slice none 0 0, .slice ab l.length cb]) ?_ rfl ⟨none, 0, none, 0, none, 0, none, 0, 0, ab, cb, rfl, Lib.hid ?_⟩
      · simp [results, Tryz.results16, go_sem, l0, l1, l2, l3, l4, l5, l6, l7]
      refine ⟨((HM.out.chg.keep K45.out).then K6.out.1).trans cT (fun i hi e => by omega), K6.out.2.1.chg cT (fun k e => e.elim (fun e => by subst e; exact ⟨far.2.2.1, far.1, far.2.1⟩) (fun e => by subst e; exact ⟨hB, by omega, by omega⟩)), K6.out.2.2.1.chg cT (fun g c hg e => ?_), ?_⟩
      · rcases e with e | e
        · exact ne_of_ty hg X6.out (by decide) e
        · exact ne_of_ty hg b6.out (by decide) e
      · have := K6.out.2.2.2
        simp only [List.length_cons] at this ⊢
        omega
end Go.Proofs.YtoafcpbpnkfhoaaGreatDoor.Prs
