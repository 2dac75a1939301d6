/-
  The contract of params (none, one or more scalar ones), where the text is so.
-/
import Derived.Test.YtoafcpbpnkfhoaaGreatDoorParA
import Derived.Test.YtoafcpbpnkfhoaaGreatDoorPrsX
namespace Go.Proofs.YtoafcpbpnkfhoaaGreatDoor.Prs
open Go.RowKit
open Lex (Tok Laid)
attribute [local go_sem] tok0 tok1 tok2
/-- What is left behind a row of parameters, and how many there are. -/
def paramsL : Nat → List Tok → Nat → Option (List Tok × Nat)
  | 0, _, _ => none
  | k + 1, us, n =>
    match us with
    | t :: vs =>
      if t.text = [44] then
        match vs with
        | tn :: tc :: tt :: te :: ws => if tn.kind = 1 ∧ tc.text = [58] ∧ readT tt.text ≠ 0 ∧ te.text ≠ [91] then paramsL k (te :: ws) (n + 1) else none
        | _ => none
      else if t.text = [41] then some (vs, n) else none
    | [] => none
def paramsF (k : Nat) (us : List Tok) : Option (List Tok × Nat) :=
  match us with
  | po :: pc :: vs =>
    if po.text = [40] then
      if pc.text = [41] then some (vs, 0)
      else match vs with
        | tc :: tt :: te :: ws => if pc.kind = 1 ∧ tc.text = [58] ∧ readT tt.text ≠ 0 ∧ te.text ≠ [91] then paramsL k (te :: ws) 1 else none
        | _ => none
    else none
  | _ => none
theorem pm_info : (Tryz.prog.info? 104).map (fun i => (i.zero, i.size, i.bytes)) = some (some (.agg #[.string ⟨#[]⟩, .int .i64 0, .int .i64 0, .int .i64 0]), 4, 40) := by kernel_rfl
structure PmAt (B G r d : Nat) (dp : Option Nat) (w : World) (L : Nat) (R : List Tok × Nat) (x : Value) (wx : World) (k : Nat) (uc : List Tok) (nc : Nat) : Prop where
  own : ∃ xs, wx.ownsRow w.heap.size 104 4 x nc xs
  chg : Chg (fun k => k = r) w wx
  rd : Rd B G wx r uc d dp
  eq : paramsL k uc nc = some R
  le : uc.length + 2 ≤ L
  sz : nc + uc.length ≤ 8193
section
variable {B G r d : Nat} {dp : Option Nat}
set_option maxRecDepth 100000 in
set_option maxHeartbeats 4000000 in
theorem params_said {k n : Nat} {us us' : List Tok} (w : World) (h : Rd B G w r us d dp) (hs : paramsF k us = some (us', n)) :
    Calls Tryz.prog 29 #[.pointer (some ⟨r, 0, none⟩)] w fun e w' => ∃ a c, e = .returned (.slice a n c) ∧ Hid (Chg (fun k => k = r) w w' ∧ Rd B G w' r us' d dp ∧ us'.length + 2 ≤ us.length) := by
  unfold paramsF at hs
  split at hs
  case h_2 => cases hs
  rename_i po pc vs
  split at hs
  case isFalse => cases hs
  rename_i h1
  split at hs
  · rename_i h2
    simp only [Option.some.injEq, Prod.mk.injEq] at hs
    obtain ⟨rfl, rfl⟩ := hs
    exact (params_nil w h h1 h2).mono fun e w' ⟨he, hk⟩ => ⟨none, 0, he, Lib.hid ⟨hk.out.1, hk.out.2, by simp⟩⟩
  rename_i h2
  split at hs
  case h_2 => cases hs
  rename_i tc tt te ws
  split at hs
  case isFalse => cases hs
  rename_i hc
  obtain ⟨h3, h4, h5, h6⟩ := hc
  have hB := h.size
  have hrw := h.lt
  have hlow := h.low
  simp only [List.length_cons] at hlow
  have H1 := Lib.hid (take_yes w h h1)
  have H2 := Lib.hid h2
  have H3 := Lib.hid (And.intro h3 (And.intro h4 (And.intro h5 h6)))
  have Hs := Lib.hid hs
  obtain ⟨i0, hi0, hz0, hz1, hz2⟩ := info_parts pm_info
  have Hi := Lib.hid (And.intro hi0 (And.intro hz0 (And.intro hz1 hz2)))
  clear h h1 h2 h3 h4 h5 h6 hs hi0 hz0 hz1 hz2
  go_enter Tryz.func29, Tryz.ntmps29
  go_upto_region 2 with (go_at_call 23; refine (H1.out).mono ?_; rintro e w1 ⟨rfl, K1⟩)
  have HN := Lib.hid (skip_no w1 K1.out.2 H2.out)
  go_upto_region 4 with (go_at_call 27; refine (HN.out).mono ?_; rintro e w2 ⟨rfl, K2⟩)
  have HP := Lib.hid (param_yes w2 (K1.out.2.kept K2.out) H3.out.1 H3.out.2.1 H3.out.2.2.1 H3.out.2.2.2)
  go_wp2_with (go_at_call 50; refine (HP.out).mono ?_; rintro e w3 ⟨rfl, K3⟩)
  have hs3 : w.heap.size ≤ w3.heap.size := by have a := K1.out.1.size; have b := Below.size K2.out; have c := K3.out.1.size; omega
  go_loopg [3] k (fun k x wx => ∃ uc nc, PmAt B G r d dp w (po :: pc :: tc :: tt :: te :: ws).length (us', n) x wx k uc nc)
  case atStart =>
    refine ⟨te :: ws, 1, ⟨[.string ⟨pc.text.toArray⟩, .int .i64 (readT tt.text), .int .i64 0, .int .i64 pc.place], rfl, .inr ⟨w3.heap.size, 1, _, rfl, hs3, heap_alloc_new w3 _, Nat.le_refl _, by decide, rfl, rfl⟩⟩, ((K1.out.1.keep K2.out).then K3.out.1).alloc _, K3.out.2.kept ((Kept.refl w3).alloc _), Hs.out, by simp, by simp; omega⟩
  case round =>
    obtain ⟨uc, nc, hown, hchg, hrd, heq, hle, hsz⟩ := hrel
    cases hgk : gk with
    | zero => rw [hgk] at heq; cases heq
    | succ k' =>
      rw [hgk] at heq
      cases uc with
      | nil => cases heq
      | cons t vs =>
        simp only [paramsL] at heq
        have Hown := Lib.hid hown
        have Hchg := Lib.hid hchg
        have Hrd := Lib.hid hrd
        have Hgk := Lib.hid hgk
        by_cases ht : t.text = [44]
        case pos =>
          rw [if_pos ht] at heq
          split at heq
          case h_2 => cases heq
          rename_i tn1 tc1 tt1 te1 ws1
          split at heq
          case isFalse => cases heq
          rename_i hc1
          have HS := Lib.hid (skip_yes wr hrd ht)
          have Heq := Lib.hid heq
          have Hc1 := Lib.hid hc1
          simp only [List.length_cons] at hsz hle
          clear hown hchg hrd hgk ht heq hc1
          obtain ⟨ys, hy1⟩ := Hown.out
          have Hy1 := Lib.hid hy1
          clear hy1
          go_upto_region 6 with (go_at_call 27; refine (HS.out).mono ?_; rintro e w5 ⟨rfl, K5⟩)
          have HP2 := Lib.hid (param_yes w5 K5.out.2 Hc1.out.1 Hc1.out.2.1 Hc1.out.2.2.1 Hc1.out.2.2.2)
          generalize readT tt1.text = T1 at *
          have HA : Hid (∀ w6, Chg (fun k => k = r) w5 w6 → w6.ownsRow w.heap.size 104 4 u3 nc ys) := Lib.hid fun w6 hc =>
            own_chg Hy1.out (K5.out.1.then hc) (fun g hg e => by obtain ⟨c, hcc⟩ := own_ty Hy1.out hg; exact (Hrd.out.apart hcc (by decide) (by decide)).1 e)
          go_wp2_with (first | (go_at_call 50; refine (HP2.out).mono ?_; rintro e w6 ⟨rfl, K6⟩) | (at_builtin; refine wpList_append_lies _ rfl (.tmp 13) (.tmp 16) 34 rfl w.heap.size 104 i0 _ 4 40 Tryz.underlying34 Hi.out.1 Hi.out.2.1 Hi.out.2.2.1 Hi.out.2.2.2 rfl (by omega) u3 nc ys rfl ((HA.out w6 K6.out.1).alloc _) ⟨w6.heap.size, 0, none⟩ 1 1 [.string ⟨tn1.text.toArray⟩, .int .i64 T1, .int .i64 0, .int .i64 tn1.place] rfl rfl (World.news_of_block (cs := #[.string ⟨tn1.text.toArray⟩, .int .i64 T1, .int .i64 0, .int .i64 tn1.place]) (heap_alloc_new w6 _)) (by simp [Value.oneCell']) (by omega) (by simp only [maxLen]; omega) (by omega) (by have a := Hchg.out.size; have b := K5.out.1.size; have c := K6.out.1.size; simp; omega) (w6.heap.size + 1) (by simp) ?_; intro ga cap w7 hown hgrow hat hlt; have Hown4 := Lib.hid hown; have Hgrow := Lib.hid hgrow; clear hown hgrow hat))
          have hsw := Hchg.out.size
          go_roundg k'
          case measure => have := Hgk.out; omega
          case rel =>
            refine ⟨te1 :: ws1, nc + 1, ⟨_, Hown4.out⟩, ((((Hchg.out.then K5.out.1).then K6.out.1).alloc _).grown Hgrow.out (fun i hi e => by have := (Hy1.out.lt i e).1; omega)), ?_, Heq.out, by simp; omega, by simp; omega⟩
            refine ((K6.out.2.kept ((Kept.refl w6).alloc _)).chg (S := fun k => u3.ownBlock = some k) ⟨Hgrow.out.os, Hgrow.out.tape, Hgrow.out.output, Hgrow.out.size, fun k hk hn => Hgrow.out.block k hk (fun e => hn e.symm)⟩ (fun j hj => ?_))
            obtain ⟨c, hc⟩ := own_ty Hy1.out hj
            exact ⟨by have := (Hy1.out.lt j hj).1; omega, Hrd.out.apart hc (by decide) (by decide)⟩
        case neg =>
          rw [if_neg ht] at heq
          split at heq
          case isFalse => cases heq
          rename_i ht2
          simp only [Option.some.injEq, Prod.mk.injEq] at heq
          obtain ⟨rfl, rfl⟩ := heq
          have HS := Lib.hid (skip_no wr hrd ht)
          have Ht2 := Lib.hid ht2
          obtain ⟨ys, hy1⟩ := hown
          obtain ⟨al, cl, hv⟩ := own_slice hy1
          simp only [List.length_cons] at hle
          clear hchg hrd hgk ht ht2 hy1
          subst hv
          go_upto_region 7 with (go_at_call 27; refine (HS.out).mono ?_; rintro e w5 ⟨rfl, K5⟩)
          have HT := Lib.hid (take_yes _ (Hrd.out.kept K5.out) Ht2.out)
          go_wp2_with (go_at_call 23; refine (HT.out).mono ?_; rintro e w6 ⟨rfl, K6⟩)
          go_ret
          exact ⟨al, cl, rfl, Lib.hid ⟨(Hchg.out.keep K5.out).then K6.out.1, K6.out.2, by first | omega | (simp; omega)⟩⟩
end
end Go.Proofs.YtoafcpbpnkfhoaaGreatDoor.Prs
