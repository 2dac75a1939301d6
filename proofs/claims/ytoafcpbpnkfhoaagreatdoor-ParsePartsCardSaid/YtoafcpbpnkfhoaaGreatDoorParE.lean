/-
  The contract of function with parameters, a type, clauses and a body, where the text is so.
-/
import Derived.Test.YtoafcpbpnkfhoaaGreatDoorParB
import Derived.Test.YtoafcpbpnkfhoaaGreatDoorParD
namespace Go.Proofs.YtoafcpbpnkfhoaaGreatDoor.Prs
open Go.RowKit
open Lex (Tok Laid)
attribute [local go_sem] tok0 tok1 tok2
def functionG (f : Nat) : FnF := fun us d dp =>
  match us with
  | tf :: tn :: vs =>
    if tf.text = [102, 110] ∧ tn.kind = 1 then
      match paramsF f vs with
      | some (tc :: tt :: us2, np) =>
        if tc.text = [58] ∧ readT tt.text ≠ 0 then
          match clausesL f d f us2 dp 0 0 with
          | some (us3, dp3, nr, ne) =>
            match blockF f us3 d dp3 with
            | some (us', dp', l) => some (us', dp', ⟨tn.text, tn.place, np, readT tt.text, nr, ne, l⟩)
            | none => none
          | none => none
        else none
      | _ => none
    else none
  | _ => none
/-- Behind the parameters: the function's own variable is made. -/
structure FnMidP (B G r d : Nat) (dp : Option Nat) (us : List Tok) (tn : Tok) (np : Nat) (L : Nat) (w wx : World) (b : Nat) (pa : Option Addr) (pc : Nat) : Prop where
  box : wx.heap[b]? = some (.cells #[.string ⟨tn.text.toArray⟩, .int .i64 tn.place, .slice pa np pc, .int .i64 0, .slice none 0 0, .slice none 0 0, .slice none 0 0, .slice none 0 0] 38 (0, 0))
  b0 : wx.heap[w.heap.size]? = some (.cells #[.string ⟨#[]⟩, .int .i64 0, .slice none 0 0, .int .i64 0, .slice none 0 0, .slice none 0 0, .slice none 0 0, .slice none 0 0] 38 (0, 0))
  rd : Rd B G wx r us d dp
  chg : Chg (fun k => k = r) w wx
  far : b ≠ r ∧ b ≠ G ∧ B ≤ b ∧ w.heap.size < b
  len : us.length + 2 ≤ L
theorem midP_new {B G r d np L pc : Nat} {pa : Option Addr} {dp : Option Nat} {us : List Tok} {tn : Tok} {w w3 : World} (hb : w3.heap[w.heap.size]? = some (.cells #[.string ⟨#[]⟩, .int .i64 0, .slice none 0 0, .int .i64 0, .slice none 0 0, .slice none 0 0, .slice none 0 0, .slice none 0 0] 38 (0, 0))) (hr : Rd B G w3 r us d dp) (hc : Chg (fun k => k = r) w w3) (hl : us.length + 2 ≤ L) : FnMidP B G r d dp us tn np L w (w3.alloc (.cells #[.string ⟨tn.text.toArray⟩, .int .i64 tn.place, .slice pa np pc, .int .i64 0, .slice none 0 0, .slice none 0 0, .slice none 0 0, .slice none 0 0] 38)) w3.heap.size pa pc :=
  ⟨heap_alloc_new _ _, (Below.heap_alloc _ _ _ (box_lt hb)).trans hb, hr.kept ((Kept.refl _).alloc _), hc.alloc _, by have := hr.lt; have := hr.ltG; have := hr.size; have := box_lt hb; omega, hl⟩
theorem midP_old {B G r d b np L pc : Nat} {pa : Option Addr} {dp : Option Nat} {us : List Tok} {tn : Tok} {w w3 : World} (hb : w3.heap[w.heap.size]? = some (.cells #[.string ⟨#[]⟩, .int .i64 0, .slice none 0 0, .int .i64 0, .slice none 0 0, .slice none 0 0, .slice none 0 0, .slice none 0 0] 38 (0, 0))) (hx : w3.heap[b]? = some (.cells #[.string ⟨#[]⟩, .int .i64 0, .slice none 0 0, .int .i64 0, .slice none 0 0, .slice none 0 0, .slice none 0 0, .slice none 0 0] 38 (0, 0))) (hr : Rd B G w3 r us d dp) (hc : Chg (fun k => k = r) w w3) (hn : b ≠ r ∧ b ≠ G ∧ B ≤ b ∧ w.heap.size < b) (hl : us.length + 2 ≤ L) :
    FnMidP B G r d dp us tn np L w ((((((((w3.setCell ⟨b, 0, none⟩ (.string ⟨tn.text.toArray⟩)).setCell ⟨b, 1, none⟩ (.int .i64 tn.place)).setCell ⟨b, 2, none⟩ (.slice pa np pc)).setCell ⟨b, 3, none⟩ (.int .i64 0)).setCell ⟨b, 4, none⟩ (.slice none 0 0)).setCell ⟨b, 5, none⟩ (.slice none 0 0)).setCell ⟨b, 6, none⟩ (.slice none 0 0)).setCell ⟨b, 7, none⟩ (.slice none 0 0)) b pa pc := by
  have c := chg_set8 w3 b (.string ⟨tn.text.toArray⟩) (.int .i64 tn.place) (.slice pa np pc) (.int .i64 0) (.slice none 0 0) (.slice none 0 0) (.slice none 0 0) (.slice none 0 0)
  refine ⟨?_, c.heap hb (by omega), hr.chg c (fun k e => by subst e; exact ⟨hn.2.2.1, hn.1, hn.2.1⟩), hc.trans c (fun i hi e => by omega), hn, hl⟩
  rw [heap_setCell_same _ _ _ _ _ _ (heap_setCell_same _ _ _ _ _ _ (heap_setCell_same _ _ _ _ _ _ (heap_setCell_same _ _ _ _ _ _ (heap_setCell_same _ _ _ _ _ _ (heap_setCell_same _ _ _ _ _ _ (heap_setCell_same _ _ _ _ _ _ (heap_setCell_same _ _ _ _ _ _ hx)))))))]
  simp
set_option maxRecDepth 100000 in
set_option maxHeartbeats 8000000 in
theorem functionG_said (f : Nat) : FnSaid (functionG f) := by
  intro B G r d us us' dp dp' fn w h hs
  unfold functionG at hs
  split at hs
  case h_2 => cases hs
  rename_i tf tn vs
  split at hs
  case isFalse => cases hs
  rename_i hc
  obtain ⟨h1, h2⟩ := hc
  split at hs
  case h_2 => cases hs
  rename_i tc tt us2 np hpar
  split at hs
  case isFalse => cases hs
  rename_i hc2
  obtain ⟨h3, h4⟩ := hc2
  split at hs
  case h_2 => cases hs
  rename_i us3 dp3 nr ne hcl
  split at hs
  case h_2 => cases hs
  rename_i us4 dp4 l hb
  simp only [Option.some.injEq, Prod.mk.injEq] at hs
  obtain ⟨rfl, rfl, rfl⟩ := hs
  have hk0 := (Kept.refl w).alloc (.cells #[.string ⟨#[]⟩, .int .i64 0, .slice none 0 0, .int .i64 0, .slice none 0 0, .slice none 0 0, .slice none 0 0, .slice none 0 0] 38)
  have H1 := Lib.hid (take_yes _ (h.kept hk0) h1)
  have B0 := Lib.hid (heap_alloc_new w (.cells #[.string ⟨#[]⟩, .int .i64 0, .slice none 0 0, .int .i64 0, .slice none 0 0, .slice none 0 0, .slice none 0 0, .slice none 0 0] 38))
  have Hk0 := Lib.hid hk0
  have Hn := Lib.hid h2
  have Hpar := Lib.hid hpar
  have Hcl := Lib.hid hcl
  have Hb := Lib.hid hb
  have H58 := Lib.hid h3
  have Hty := Lib.hid h4
  have hB := h.size
  have hrw := h.lt
  have hGw := h.ltG
  clear h hk0 h1 h2 h3 h4 hb hpar hcl
  have HTy := Lib.hid (fun (w3 : World) (h3 : Rd B G w3 r (tt :: us2) d dp) => type_yes w3 h3 Hty.out)
  clear Hty
  generalize readT tt.text = T at *
  go_enter Tryz.func16, Tryz.ntmps16
  go_upto_region 2 with (go_at_call 23; refine (H1.out).mono ?_; rintro e w1 ⟨rfl, K1⟩)
  have H2 := Lib.hid (name_yes _ K1.out.2 Hn.out)
  rw [Hn.out] at H2
  go_upto_region 3 with (go_at_call 24; refine (H2.out).mono ?_; rintro e w2 ⟨rfl, K2⟩)
  have hs2 : w.heap.size + 1 ≤ w2.heap.size := by have a := K1.out.1.size; have b := K2.out.1.size; simp at a; omega
  have kA : Kept w2 (w2.alloc (.cells #[.int .i64 1, .string ⟨tn.text.toArray⟩, .int .i64 tn.place] 62)) := (Kept.refl w2).alloc _
  have H3 := Lib.hid (params_said _ ((K2.out.2.kept kA).kept (Kept.refl _).drew) Hpar.out)
  have T2 := Lib.hid (heap_alloc_new w2 (.cells #[.int .i64 1, .string ⟨tn.text.toArray⟩, .int .i64 tn.place] 62))
  have B2 := Lib.hid (((K1.out.1.then K2.out.1).keep kA).heap B0.out (by omega))
  have n1 : w2.heap.size ≠ r := by omega
  have HkA := Lib.hid kA
  clear kA
  have kB : Kept w2 ((w2.alloc (.cells #[.int .i64 1, .string ⟨tn.text.toArray⟩, .int .i64 tn.place] 62)).alloc (.cells #[.string ⟨#[]⟩, .int .i64 0, .slice none 0 0, .int .i64 0, .slice none 0 0, .slice none 0 0, .slice none 0 0, .slice none 0 0] 38)) := ((Kept.refl w2).alloc _).alloc _
  have H3b := Lib.hid (params_said _ ((K2.out.2.kept kB).kept (Kept.refl _).drew) Hpar.out)
  have F2 : Hid (((w2.alloc (.cells #[.int .i64 1, .string ⟨tn.text.toArray⟩, .int .i64 tn.place] 62)).alloc (.cells #[.string ⟨#[]⟩, .int .i64 0, .slice none 0 0, .int .i64 0, .slice none 0 0, .slice none 0 0, .slice none 0 0, .slice none 0 0] 38)).heap[w2.heap.size + 1]? = some (.cells #[.string ⟨#[]⟩, .int .i64 0, .slice none 0 0, .int .i64 0, .slice none 0 0, .slice none 0 0, .slice none 0 0, .slice none 0 0] 38 (0, 0))) := Lib.hid (by
    have := heap_alloc_new (w2.alloc (.cells #[.int .i64 1, .string ⟨tn.text.toArray⟩, .int .i64 tn.place] 62)) (.cells #[.string ⟨#[]⟩, .int .i64 0, .slice none 0 0, .int .i64 0, .slice none 0 0, .slice none 0 0, .slice none 0 0, .slice none 0 0] 38)
    simpa using this)
  have T2b := Lib.hid (show ((w2.alloc (.cells #[.int .i64 1, .string ⟨tn.text.toArray⟩, .int .i64 tn.place] 62)).alloc (.cells #[.string ⟨#[]⟩, .int .i64 0, .slice none 0 0, .int .i64 0, .slice none 0 0, .slice none 0 0, .slice none 0 0, .slice none 0 0] 38)).heap[w2.heap.size]? = some (.cells #[.int .i64 1, .string ⟨tn.text.toArray⟩, .int .i64 tn.place] 62 (0, 0)) from (Below.heap_alloc _ _ _ (by simp)).trans T2.out)
  have B2b := Lib.hid (((K1.out.1.then K2.out.1).keep kB).heap B0.out (by omega))
  have HkB := Lib.hid kB
  have n2 : w2.heap.size + 1 ≠ r := by omega
  clear kB
  go_cut [4] (fun x wx => ∃ b pa pc, x = .pointer (some ⟨b, 0, none⟩) ∧ FnMidP B G r d dp (tc :: tt :: us2) tn np vs.length w wx b pa pc)
  case first =>
    go_region_held3 (fun w' => w'.cell? ⟨w2.heap.size, 1, none⟩ = some (.string ⟨tn.text.toArray⟩) ∧ w'.cell? ⟨w2.heap.size, 2, none⟩ = some (.int .i64 tn.place))
      (first | go_keep | exact ⟨z1, z2⟩)
      (first
        | (go_at_call 29; refine (H3.out).mono ?_; rintro e w3 ⟨pa, pc, rfl, K3⟩; have ht3 := K3.out.1.heap T2.out n1; have z1 := box_cell ht3 1 _ rfl; have z2 := box_cell ht3 2 _ rfl; have hl3 := box_lt ht3; clear ht3)
        | (go_at_call 29; refine (H3b.out).mono ?_; rintro e w3 ⟨pa, pc, rfl, K3b⟩; have ht3 := K3b.out.1.heap T2b.out n1; have z1 := box_cell ht3 1 _ rfl; have z2 := box_cell ht3 2 _ rfl; clear ht3; have hf3 := K3b.out.1.heap F2.out n2; have y0 := box_cell hf3 0 _ rfl; have y1 := box_cell hf3 1 _ rfl; have y2 := box_cell hf3 2 _ rfl; have y3 := box_cell hf3 3 _ rfl; have y4 := box_cell hf3 4 _ rfl; have y5 := box_cell hf3 5 _ rfl; have y6 := box_cell hf3 6 _ rfl; have y7 := box_cell hf3 7 _ rfl; have yf := box_froz hf3; have Hf3 := Lib.hid hf3; clear hf3))
    all_goals go_wp2_with fail
    all_goals go_meet
    · have m1 : w3.heap[w.heap.size]? = some (.cells #[.string ⟨#[]⟩, .int .i64 0, .slice none 0 0, .int .i64 0, .slice none 0 0, .slice none 0 0, .slice none 0 0, .slice none 0 0] 38 (0, 0)) := K3.out.1.heap B2.out (by omega)
      have m0 : Chg (fun k => k = r) w (w2.alloc (.cells #[.int .i64 1, .string ⟨tn.text.toArray⟩, .int .i64 tn.place] 62)) := (((Chg.of_kept Hk0.out).then K1.out.1).then K2.out.1).keep HkA.out
      have m2 : Chg (fun k => k = r) w w3 := m0.drew.then K3.out.1
      have m3 := midP_new (tn := tn) (np := np) (pa := pa) (pc := pc) m1 K3.out.2.1 m2 K3.out.2.2
      exact ⟨w3.heap.size, pa, pc, rfl, m3⟩
    · have m1 : w3.heap[w.heap.size]? = some (.cells #[.string ⟨#[]⟩, .int .i64 0, .slice none 0 0, .int .i64 0, .slice none 0 0, .slice none 0 0, .slice none 0 0, .slice none 0 0] 38 (0, 0)) := K3b.out.1.heap B2b.out (by omega)
      have m0 : Chg (fun k => k = r) w ((w2.alloc (.cells #[.int .i64 1, .string ⟨tn.text.toArray⟩, .int .i64 tn.place] 62)).alloc (.cells #[.string ⟨#[]⟩, .int .i64 0, .slice none 0 0, .int .i64 0, .slice none 0 0, .slice none 0 0, .slice none 0 0, .slice none 0 0] 38)) := (((Chg.of_kept Hk0.out).then K1.out.1).then K2.out.1).keep HkB.out
      have m2 : Chg (fun k => k = r) w w3 := m0.drew.then K3b.out.1
      have hn : w2.heap.size + 1 ≠ r ∧ w2.heap.size + 1 ≠ G ∧ B ≤ w2.heap.size + 1 ∧ w.heap.size < w2.heap.size + 1 := by omega
      have m3 := midP_old (tn := tn) (np := np) (pa := pa) (pc := pc) m1 Hf3.out K3b.out.2.1 m2 hn K3b.out.2.2
      exact ⟨w2.heap.size + 1, pa, pc, rfl, m3⟩
  case rest =>
    obtain ⟨b, pa, pc, hx, hm⟩ := hcut
    subst hx
    have HM := Lib.hid hm
    have far := hm.far
    have hl0 := hm.len
    simp only [List.length_cons] at hl0
    clear hm
    have H4 := Lib.hid (skip_yes wc HM.out.rd H58.out)
    go_upto_region 5 with (go_at_call 27; refine (H4.out).mono ?_; rintro e w4 ⟨rfl, K4⟩)
    have H5 := Lib.hid (HTy.out w4 K4.out.2)
    go_upto_region 6 with (go_at_call 25; refine (H5.out).mono ?_; rintro e w5 ⟨rfl, K5⟩; have hb5 := (K4.out.1.then K5.out.1).heap HM.out.box far.1; have z3 := box_cell hb5 3 _ rfl; have zf := box_froz hb5; have Hb5 := Lib.hid hb5; clear hb5)
    have Hb6 := Lib.hid (show (w5.setCell ⟨b, 3, none⟩ (.int .i64 T)).heap[b]? = some (.cells #[.string ⟨tn.text.toArray⟩, .int .i64 tn.place, .slice pa np pc, .int .i64 T, .slice none 0 0, .slice none 0 0, .slice none 0 0, .slice none 0 0] 38 (0, 0)) from heap_setCell_same _ _ 3 _ _ (.int .i64 T) Hb5.out)
    have c46 := Lib.hid (((K4.out.1.then K5.out.1).mono (T := fun k => k = r ∨ k = b) (fun _ _ e => .inl e)).trans (chg_set _ b 3 (.int .i64 T)) (fun _ _ e => .inr e))
    have R6 := Lib.hid (K5.out.2.chg (chg_set w5 b 3 (.int .i64 T)) (fun j e => by subst e; exact ⟨far.2.2.1, far.1, far.2.1⟩))
    clear K4 K5 Hb5 z3 zf
    generalize w5.setCell ⟨b, 3, none⟩ (.int .i64 T) = w6 at *
    have H6 := Lib.hid (clauses_said w6 R6.out Hb6.out ⟨far.1, far.2.1, far.2.2.1⟩ Hcl.out)
    go_upto_region 7 with (go_at_call 30; refine (H6.out).mono ?_; rintro e w7 ⟨rfl, K7⟩)
    obtain ⟨ar, cr, ae, ce, k71, k72, k73, k74⟩ := K7.out
    have C7 := Lib.hid (c46.out.then k71)
    have R7 := Lib.hid k72
    have X7 := Lib.hid k73
    have b07 := Lib.hid (C7.out.heap HM.out.b0 (by omega))
    clear k71 k72 k73 K7
    have H7 := Lib.hid ((all_blocks f).1 w7 R7.out Hb.out)
    go_upto_region 8 with (go_at_call 31; refine (H7.out).mono ?_; rintro e w8 ⟨ab, cb, rfl, K8⟩; have hx8 := K8.out.1.heap X7.out far.1; have z7 := box_cell hx8 7 _ rfl; have zf := box_froz hx8; have X8 := Lib.hid hx8; clear hx8)
    have b8 := Lib.hid (K8.out.1.heap b07.out (by omega))
    have y0 := box_cell X8.out 0 _ rfl
    have y1 := box_cell X8.out 1 _ rfl
    have y2 := box_cell X8.out 2 _ rfl
    have y3 := box_cell X8.out 3 _ rfl
    have y4 := box_cell X8.out 4 _ rfl
    have y5 := box_cell X8.out 5 _ rfl
    have y6 := box_cell X8.out 6 _ rfl
    have l0 := box_cell b8.out 0 _ rfl
    have l1 := box_cell b8.out 1 _ rfl
    have l2 := box_cell b8.out 2 _ rfl
    have l3 := box_cell b8.out 3 _ rfl
    have l4 := box_cell b8.out 4 _ rfl
    have l5 := box_cell b8.out 5 _ rfl
    have l6 := box_cell b8.out 6 _ rfl
    have l7 := box_cell b8.out 7 _ rfl
    have lf := box_froz b8.out
    have nb : ¬ w.heap.size = b := by omega
    have nb' : ¬ b = w.heap.size := by omega
    go_wp2
    have c1 := chg_set w8 b 7 (.slice ab l.length cb)
    have c8 := chg_set8 (w8.setCell ⟨b, 7, none⟩ (.slice ab l.length cb)) w.heap.size (.string ⟨tn.text.toArray⟩) (.int .i64 tn.place) (.slice pa np pc) (.int .i64 T) (.slice ar nr cr) (.slice ae ne ce) (.slice none 0 0) (.slice ab l.length cb)
    have cT := (c1.mono (T := fun k => k = b ∨ k = w.heap.size) (fun _ _ e => .inl e)).trans c8 (fun _ _ e => .inr e)
    refine bodyPost_ret (v := .agg #[.string ⟨tn.text.toArray⟩, .int .i64 tn.place, .slice pa np pc, .int .i64 T, .slice ar nr cr, .slice ae ne ce, .slice none 0 0, .slice ab l.length cb]) ?_ rfl ⟨pa, pc, ar, cr, ae, ce, none, 0, 0, ab, cb, rfl, Lib.hid ?_⟩
    · simp [results, Tryz.results16, go_sem, l0, l1, l2, l3, l4, l5, l6, l7]
    refine ⟨((HM.out.chg.trans C7.out (fun i hi e => by omega)).then K8.out.1).trans cT (fun i hi e => by omega), K8.out.2.1.chg cT (fun k e => e.elim (fun e => by subst e; exact ⟨far.2.2.1, far.1, far.2.1⟩) (fun e => by subst e; exact ⟨hB, by omega, by omega⟩)), K8.out.2.2.1.chg cT (fun g c hg e => ?_), ?_⟩
    · rcases e with e | e
      · exact ne_of_ty hg X8.out (by decide) e
      · exact ne_of_ty hg b8.out (by decide) e
    · have h9 := K8.out.2.2.2
      have h8 : (tf :: tn :: vs).length = vs.length + 2 := rfl
      omega
end Go.Proofs.YtoafcpbpnkfhoaaGreatDoor.Prs
