/-
  The contract of clauses (requires and ensures, in a row), where the text is so.
-/
import Derived.Test.YtoafcpbpnkfhoaaGreatDoorParC
import Derived.Test.YtoafcpbpnkfhoaaGreatDoorPrsX
namespace Go.Proofs.YtoafcpbpnkfhoaaGreatDoor.Prs
open Go.RowKit
open Lex (Tok Laid)
attribute [local go_sem] tok0 tok1 tok2
/-- What is left behind the clauses, and how many there are of each kind. -/
def clausesL (f d : Nat) : Nat → List Tok → Option Nat → Nat → Nat → Option (List Tok × Option Nat × Nat × Nat)
  | 0, _, _, _, _ => none
  | k + 1, us, dp, nr, ne =>
    match us with
    | [] => none
    | t :: _ =>
      if t.text = [114, 101, 113, 117, 105, 114, 101, 115] then match clauseF f us d dp with | some (us1, dp1) => clausesL f d k us1 dp1 (nr + 1) ne | none => none
      else if t.text = [101, 110, 115, 117, 114, 101, 115] then match clauseF f us d dp with | some (us1, dp1) => clausesL f d k us1 dp1 nr (ne + 1) | none => none
      else if t.text = [97, 115, 115, 105, 103, 110, 115] then none
      else some (us, dp, nr, ne)
theorem cl_info : (Tryz.prog.info? 107).map (fun i => (i.zero, i.size, i.bytes)) = some (some (.agg #[.int .i64 0, .slice none 0 0]), 2, 32) := by kernel_rfl
structure ClAt (B G r d b f : Nat) (q0 q1 q2 q3 q6 q7 : Value) (w : World) (L : Nat) (R : List Tok × Option Nat × Nat × Nat) (wx : World) (k : Nat) (us : List Tok) (dp : Option Nat) (nr ne : Nat) (vr ve : Value) : Prop where
  chg : Chg (fun k => k = r ∨ k = b) w wx
  rd : Rd B G wx r us d dp
  box : wx.heap[b]? = some (.cells #[q0, q1, q2, q3, vr, ve, q6, q7] 38 (0, 0))
  own4 : ∃ xs, wx.ownsRow w.heap.size 107 2 vr nr xs
  own5 : ∃ xs, wx.ownsRow w.heap.size 107 2 ve ne xs
  dis : ∀ j, vr.ownBlock = some j → ve.ownBlock = some j → False
  eq : clausesL f d k us dp nr ne = some R
  sz : nr + ne + us.length ≤ 8193
  le : us.length ≤ L
section
variable {B G r d : Nat} {dp : Option Nat}
set_option maxRecDepth 100000 in
set_option maxHeartbeats 8000000 in
theorem clauses_said {f k b nr ne : Nat} {us us' : List Tok} {dp' : Option Nat} {q0 q1 q2 q3 q6 q7 : Value} (w : World) (h : Rd B G w r us d dp) (hb : w.heap[b]? = some (.cells #[q0, q1, q2, q3, .slice none 0 0, .slice none 0 0, q6, q7] 38 (0, 0))) (far : b ≠ r ∧ b ≠ G ∧ B ≤ b) (hs : clausesL f d k us dp 0 0 = some (us', dp', nr, ne)) :
    Calls Tryz.prog 30 #[.pointer (some ⟨r, 0, none⟩), .pointer (some ⟨b, 0, none⟩)] w fun e w' => e = .returned (.tuple #[]) ∧ Hid (∃ ar cr ae ce, Chg (fun k => k = r ∨ k = b) w w' ∧ Rd B G w' r us' d dp' ∧ w'.heap[b]? = some (.cells #[q0, q1, q2, q3, .slice ar nr cr, .slice ae ne ce, q6, q7] 38 (0, 0)) ∧ us'.length ≤ us.length) := by
  have HH := Lib.hid h
  have hB := h.size
  have hrw := h.lt
  have hGw := h.ltG
  have hlow := h.low
  have Hs := Lib.hid hs
  have Hb := Lib.hid hb
  have hbw := box_lt hb
  obtain ⟨i0, hi0, hz0, hz1, hz2⟩ := info_parts cl_info
  have Hi := Lib.hid (And.intro hi0 (And.intro hz0 (And.intro hz1 hz2)))
  clear h hb hs hi0 hz0 hz1 hz2
  go_enter Tryz.func30, Tryz.ntmps30
  go_wp2_with fail
  go_step3
  go_wp2_with fail
  go_step3
  go_wp2_with fail
  go_loopg [4] k (fun k _ wx => ∃ uc dc nrc nec vr ve, ClAt B G r d b f q0 q1 q2 q3 q6 q7 w us.length (us', dp', nr, ne) wx k uc dc nrc nec vr ve)
  case atStart =>
    exact ⟨us, dp, 0, 0, .slice none 0 0, .slice none 0 0, Chg.refl _ _, HH.out, Hb.out, ⟨[], World.ownsRow_nil _ _ _ _⟩, ⟨[], World.ownsRow_nil _ _ _ _⟩, (fun j h _ => by cases h), Hs.out, by omega, Nat.le_refl _⟩
  case round =>
    obtain ⟨uc, dc, nrc, nec, vr, ve, ha⟩ := hrel
    obtain ⟨hchg, hrd, hbox, hor, hoe, hdis, heq, hsz, hle⟩ := ha
    cases hgk : gk with
    | zero => rw [hgk] at heq; cases heq
    | succ k' =>
      rw [hgk] at heq
      cases uc with
      | nil => cases heq
      | cons t us1 =>
        have HP := Lib.hid (peek_any wr hrd)
        have Hchg := Lib.hid hchg
        have Hrd := Lib.hid hrd
        have Hbox := Lib.hid hbox
        have Hor := Lib.hid hor
        have Hoe := Lib.hid hoe
        have Hdis := Lib.hid hdis
        have Hgk := Lib.hid hgk
        simp only [clausesL] at heq
        simp only [List.length_cons] at hsz hle
        clear hchg hrd hbox hor hoe hdis hgk
        by_cases h1 : t.text = [114, 101, 113, 117, 105, 114, 101, 115]
        case pos =>
          rw [if_pos h1] at heq
          have hb1 : (t.text == [114, 101, 113, 117, 105, 114, 101, 115]) = true := by rw [h1]; rfl
          clear h1
          cases hg : clauseF f (t :: us1) d dc with
          | none => rw [hg] at heq; cases heq
          | some p =>
            obtain ⟨us2, dp2⟩ := p
            rw [hg] at heq
            simp only at heq
            have Hg := Lib.hid hg
            have Heq := Lib.hid heq
            clear heq hg
            skip
            obtain ⟨xs, hxs⟩ := Hor.out
            obtain ⟨av, cv, hv⟩ := own_slice hxs
            subst hv
            have Hx := Lib.hid hxs
            have HD : Hid (∀ j, (Value.slice av nrc cv).ownBlock = some j → ve.ownBlock = some j → False) := Lib.hid (fun j h1 h2 => Hdis.out j h1 h2)
            clear hxs Hor Hdis
            go_upto_region 2 with (go_at_call 14; refine (HP.out).mono ?_; rintro e w1 ⟨rfl, K1⟩)
            have HG := Lib.hid (clause_said w1.drew ((Hrd.out.kept K1.out).kept (Kept.refl w1).drew) Hg.out)
            have hx1' := (Below.block K1.out _ (box_lt Hbox.out)).trans Hbox.out
            have z0 := box_cell hx1' 4 _ rfl
            clear hx1'
            have hsw := Hchg.out.size
            have hs1 := Below.size K1.out
            have HA : Hid (∀ w2, Chg (fun k => k = r) w1.drew w2 → w2.heap[b]? = some (.cells #[q0, q1, q2, q3, .slice av nrc cv, ve, q6, q7] 38 (0, 0)) ∧ w2.ownsRow w.heap.size 107 2 (.slice av nrc cv) nrc xs) := Lib.hid fun w2 hc => by
              have hc' : Chg (fun k => k = r) wr w2 := ((Chg.of_kept K1.out).drew).then hc
              exact ⟨hc'.heap Hbox.out far.1, own_chg Hx.out hc' (fun g hg e => by obtain ⟨c, hcc⟩ := own_ty Hx.out hg; exact (Hrd.out.apart hcc (by decide) (by decide)).1 e)⟩
            go_region_law (first
              | (go_simp; go_at_call 51; refine (HG.out).mono ?_; rintro e w2 ⟨pp, pa, pl, pc, rfl, K2⟩; have hs2 : w1.heap.size ≤ w2.heap.size := K2.out.1.size; have hb2 := (HA.out w2 K2.out.1).1; have y0 := box_cell hb2 4 _ rfl; have hl2 := box_lt hb2; clear hb2)
              | (refine step_append_lies _ rfl (.tmp 13) (.tmp 16) 35 rfl w.heap.size 107 i0 _ 2 32 Tryz.underlying35 Hi.out.1 Hi.out.2.1 Hi.out.2.2.1 Hi.out.2.2.2 rfl (by omega) (.slice av nrc cv) nrc xs rfl ((HA.out w2 K2.out.1).2.alloc _) ⟨w2.heap.size, 0, none⟩ 1 1 [.int .i64 pp, .slice pa pl pc] rfl rfl (World.news_of_block (cs := #[.int .i64 pp, .slice pa pl pc]) (heap_alloc_new w2 _)) (by simp [Value.oneCell']) (by omega) (by simp only [maxLen]; omega) (by omega) (by simp; omega) (w2.heap.size + 1) (by simp) ?_; intro ga cap w3 hown hgrow hat hlt; have hb3 := (hgrow.block b (by simp; omega) (fun e => by obtain ⟨c, hc⟩ := own_ty (HA.out w2 K2.out.1).2 e.symm; exact ne_of_ty (HA.out w2 K2.out.1).1 hc (by decide) rfl)).trans ((Below.heap_alloc _ _ _ (box_lt (HA.out w2 K2.out.1).1)).trans (HA.out w2 K2.out.1).1); have x0 := box_cell hb3 4 _ rfl; have xf := box_froz hb3; have Hb3 := Lib.hid hb3; have Hown := Lib.hid hown; have Hgrow := Lib.hid hgrow; have Hat := Lib.hid hat; clear hown hgrow hat hb3))
            all_goals
              go_wp2_with fail
              have cT : Chg (fun k => k = r ∨ k = b ∨ (Value.slice av nrc cv).ownBlock = some k) wr (w3.setCell ⟨b, 4, none⟩ (.slice (some ⟨ga, 0, none⟩) (nrc + 1) cap)) :=
                (((((((Chg.of_kept K1.out).drew).mono (T := fun k => k = r ∨ k = b ∨ (Value.slice av nrc cv).ownBlock = some k) (fun _ _ e => e)).trans K2.out.1 (fun _ _ e => .inl e)).alloc _).grown Hgrow.out (fun _ _ e => .inr (.inr e))).trans (chg_set w3 b 4 _) (fun _ _ e => .inr (.inl e)))
              have hbB : ∀ j, (Value.slice av nrc cv).ownBlock = some j → w.heap.size ≤ j ∧ ∃ c, wr.heap[j]? = some (.cells c 107 (0, 0)) := fun j hj => ⟨(Hx.out.lt j hj).1, own_ty Hx.out hj⟩
              have hne : ga ≠ b := fun e => by
                obtain ⟨c, hc⟩ := own_ty Hown.out (g := ga) rfl
                exact ne_of_ty hc Hb3.out (by decide) e
              obtain ⟨ys, hys⟩ := Hoe.out
              have hlen := K2.out.2.2
              simp only [List.length_cons] at hlen
              have hnew := own_chg Hown.out (chg_set w3 b 4 (.slice (some ⟨ga, 0, none⟩) (nrc + 1) cap)) (fun j hj e => hne (by simp [Value.ownBlock] at hj; omega))
              have hold := own_chg hys cT (fun j hj e => by
                obtain ⟨c, hc⟩ := own_ty hys hj
                rcases e with e | e | e
                · exact (Hrd.out.apart hc (by decide) (by decide)).1 e
                · exact ne_of_ty hc Hbox.out (by decide) e
                · exact HD.out j e hj)
              have hdisj : ∀ j, (some ga : Option Nat) = some j → ve.ownBlock = some j → False := fun j h1 h2 => by
                injection h1 with h1
                subst h1
                rcases Hat.out with e | e
                · exact HD.out ga e h2
                · have := (hys.lt ga h2).2
                  omega
              go_roundg k'
              case measure => have := Hgk.out; omega
              case rel =>
                refine ⟨us2, dp2, nrc + 1, nec, _, ve, Hchg.out.trans cT (fun i hi e => ?_), ?_, heap_setCell_same _ _ _ _ _ _ Hb3.out, ⟨_, hnew⟩, ⟨_, hold⟩, hdisj, Heq.out, by omega, by omega⟩
                · rcases e with e | e | e
                  · exact .inl e
                  · exact .inr e
                  · have := (hbB i e).1; omega
                · refine (((K2.out.2.1.kept ((Kept.refl w2).alloc _)).chg (S := fun k => (Value.slice av nrc cv).ownBlock = some k) ⟨Hgrow.out.os, Hgrow.out.tape, Hgrow.out.output, Hgrow.out.size, fun k hk hn => Hgrow.out.block k hk (fun e => hn e.symm)⟩ (fun j hj => ?_)).chg (chg_set w3 b 4 _) (fun j e => by subst e; exact ⟨far.2.2, far.1, far.2.1⟩))
                  obtain ⟨hj1, c, hc⟩ := hbB j hj
                  exact ⟨by omega, Hrd.out.apart hc (by decide) (by decide)⟩
        case neg =>
          rw [if_neg h1] at heq
          have hb1 : (t.text == [114, 101, 113, 117, 105, 114, 101, 115]) = false := by simpa using h1
          clear h1
          by_cases h2 : t.text = [101, 110, 115, 117, 114, 101, 115]
          case pos =>
            rw [if_pos h2] at heq
            have hb2 : (t.text == [101, 110, 115, 117, 114, 101, 115]) = true := by rw [h2]; rfl
            clear h2
            cases hg : clauseF f (t :: us1) d dc with
            | none => rw [hg] at heq; cases heq
            | some p =>
              obtain ⟨us2, dp2⟩ := p
              rw [hg] at heq
              simp only at heq
              have Hg := Lib.hid hg
              have Heq := Lib.hid heq
              clear heq hg
              skip
              obtain ⟨xs, hxs⟩ := Hoe.out
              obtain ⟨av, cv, hv⟩ := own_slice hxs
              subst hv
              have Hx := Lib.hid hxs
              have HD : Hid (∀ j, (Value.slice av nec cv).ownBlock = some j → vr.ownBlock = some j → False) := Lib.hid (fun j h1 h2 => Hdis.out j h2 h1)
              clear hxs Hoe Hdis
              go_upto_region 4 with (go_at_call 14; refine (HP.out).mono ?_; rintro e w1 ⟨rfl, K1⟩)
              have HG := Lib.hid (clause_said w1.drew ((Hrd.out.kept K1.out).kept (Kept.refl w1).drew) Hg.out)
              have hx1' := (Below.block K1.out _ (box_lt Hbox.out)).trans Hbox.out
              have z0 := box_cell hx1' 5 _ rfl
              clear hx1'
              have hsw := Hchg.out.size
              have hs1 := Below.size K1.out
              have HA : Hid (∀ w2, Chg (fun k => k = r) w1.drew w2 → w2.heap[b]? = some (.cells #[q0, q1, q2, q3, vr, .slice av nec cv, q6, q7] 38 (0, 0)) ∧ w2.ownsRow w.heap.size 107 2 (.slice av nec cv) nec xs) := Lib.hid fun w2 hc => by
                have hc' : Chg (fun k => k = r) wr w2 := ((Chg.of_kept K1.out).drew).then hc
                exact ⟨hc'.heap Hbox.out far.1, own_chg Hx.out hc' (fun g hg e => by obtain ⟨c, hcc⟩ := own_ty Hx.out hg; exact (Hrd.out.apart hcc (by decide) (by decide)).1 e)⟩
              go_region_law (first
                | (go_simp; go_at_call 51; refine (HG.out).mono ?_; rintro e w2 ⟨pp, pa, pl, pc, rfl, K2⟩; have hs2 : w1.heap.size ≤ w2.heap.size := K2.out.1.size; have hb2 := (HA.out w2 K2.out.1).1; have y0 := box_cell hb2 5 _ rfl; have hl2 := box_lt hb2; clear hb2)
                | (refine step_append_lies _ rfl (.tmp 26) (.tmp 29) 35 rfl w.heap.size 107 i0 _ 2 32 Tryz.underlying35 Hi.out.1 Hi.out.2.1 Hi.out.2.2.1 Hi.out.2.2.2 rfl (by omega) (.slice av nec cv) nec xs rfl ((HA.out w2 K2.out.1).2.alloc _) ⟨w2.heap.size, 0, none⟩ 1 1 [.int .i64 pp, .slice pa pl pc] rfl rfl (World.news_of_block (cs := #[.int .i64 pp, .slice pa pl pc]) (heap_alloc_new w2 _)) (by simp [Value.oneCell']) (by omega) (by simp only [maxLen]; omega) (by omega) (by simp; omega) (w2.heap.size + 1) (by simp) ?_; intro ga cap w3 hown hgrow hat hlt; have hb3 := (hgrow.block b (by simp; omega) (fun e => by obtain ⟨c, hc⟩ := own_ty (HA.out w2 K2.out.1).2 e.symm; exact ne_of_ty (HA.out w2 K2.out.1).1 hc (by decide) rfl)).trans ((Below.heap_alloc _ _ _ (box_lt (HA.out w2 K2.out.1).1)).trans (HA.out w2 K2.out.1).1); have x0 := box_cell hb3 5 _ rfl; have xf := box_froz hb3; have Hb3 := Lib.hid hb3; have Hown := Lib.hid hown; have Hgrow := Lib.hid hgrow; have Hat := Lib.hid hat; clear hown hgrow hat hb3))
              all_goals
                go_wp2_with fail
                have cT : Chg (fun k => k = r ∨ k = b ∨ (Value.slice av nec cv).ownBlock = some k) wr (w3.setCell ⟨b, 5, none⟩ (.slice (some ⟨ga, 0, none⟩) (nec + 1) cap)) :=
                  (((((((Chg.of_kept K1.out).drew).mono (T := fun k => k = r ∨ k = b ∨ (Value.slice av nec cv).ownBlock = some k) (fun _ _ e => e)).trans K2.out.1 (fun _ _ e => .inl e)).alloc _).grown Hgrow.out (fun _ _ e => .inr (.inr e))).trans (chg_set w3 b 5 _) (fun _ _ e => .inr (.inl e)))
                have hbB : ∀ j, (Value.slice av nec cv).ownBlock = some j → w.heap.size ≤ j ∧ ∃ c, wr.heap[j]? = some (.cells c 107 (0, 0)) := fun j hj => ⟨(Hx.out.lt j hj).1, own_ty Hx.out hj⟩
                have hne : ga ≠ b := fun e => by
                  obtain ⟨c, hc⟩ := own_ty Hown.out (g := ga) rfl
                  exact ne_of_ty hc Hb3.out (by decide) e
                obtain ⟨ys, hys⟩ := Hor.out
                have hlen := K2.out.2.2
                simp only [List.length_cons] at hlen
                have hnew := own_chg Hown.out (chg_set w3 b 5 (.slice (some ⟨ga, 0, none⟩) (nec + 1) cap)) (fun j hj e => hne (by simp [Value.ownBlock] at hj; omega))
                have hold := own_chg hys cT (fun j hj e => by
                  obtain ⟨c, hc⟩ := own_ty hys hj
                  rcases e with e | e | e
                  · exact (Hrd.out.apart hc (by decide) (by decide)).1 e
                  · exact ne_of_ty hc Hbox.out (by decide) e
                  · exact HD.out j e hj)
                have hdisj : ∀ j, (some ga : Option Nat) = some j → vr.ownBlock = some j → False := fun j h1 h2 => by
                  injection h1 with h1
                  subst h1
                  rcases Hat.out with e | e
                  · exact HD.out ga e h2
                  · have := (hys.lt ga h2).2
                    omega
                go_roundg k'
                case measure => have := Hgk.out; omega
                case rel =>
                  refine ⟨us2, dp2, nrc, nec + 1, vr, _, Hchg.out.trans cT (fun i hi e => ?_), ?_, heap_setCell_same _ _ _ _ _ _ Hb3.out, ⟨_, hold⟩, ⟨_, hnew⟩, fun j h1 h2 => hdisj j h2 h1, Heq.out, by omega, by omega⟩
                  · rcases e with e | e | e
                    · exact .inl e
                    · exact .inr e
                    · have := (hbB i e).1; omega
                  · refine (((K2.out.2.1.kept ((Kept.refl w2).alloc _)).chg (S := fun k => (Value.slice av nec cv).ownBlock = some k) ⟨Hgrow.out.os, Hgrow.out.tape, Hgrow.out.output, Hgrow.out.size, fun k hk hn => Hgrow.out.block k hk (fun e => hn e.symm)⟩ (fun j hj => ?_)).chg (chg_set w3 b 5 _) (fun j e => by subst e; exact ⟨far.2.2, far.1, far.2.1⟩))
                    obtain ⟨hj1, c, hc⟩ := hbB j hj
                    exact ⟨by omega, Hrd.out.apart hc (by decide) (by decide)⟩
          case neg =>
            rw [if_neg h2] at heq
            split at heq
            case isTrue => cases heq
            rename_i h3
            have hb2 : (t.text == [101, 110, 115, 117, 114, 101, 115]) = false := by simpa using h2
            have hb3 : (t.text == [97, 115, 115, 105, 103, 110, 115]) = false := by simpa using h3
            simp only [Option.some.injEq, Prod.mk.injEq] at heq
            obtain ⟨rfl, rfl, rfl, rfl⟩ := heq
            clear h2 h3
            go_wp2_with (go_at_call 14; refine (HP.out).mono ?_; rintro e w1 ⟨rfl, K1⟩)
            simp only [Exit.noGoto]
            go_end0
            obtain ⟨xs, hxs⟩ := Hor.out
            obtain ⟨ar, cr, hv⟩ := own_slice hxs
            obtain ⟨ys, hys⟩ := Hoe.out
            obtain ⟨ae, ce, hv'⟩ := own_slice hys
            subst hv hv'
            exact ⟨rfl, Lib.hid ⟨ar, cr, ae, ce, Hchg.out.keep K1.out, Hrd.out.kept K1.out, (Below.block K1.out _ (box_lt Hbox.out)).trans Hbox.out, by simpa using hle⟩⟩
end
end Go.Proofs.YtoafcpbpnkfhoaaGreatDoor.Prs
