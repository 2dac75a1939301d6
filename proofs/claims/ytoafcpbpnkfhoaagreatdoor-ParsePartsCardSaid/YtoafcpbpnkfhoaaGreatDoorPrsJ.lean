/-
  Contracts of both, either and cond: conditions at whatever number of steps.
-/
import Derived.Test.YtoafcpbpnkfhoaaGreatDoorPrsI
namespace Go.Proofs.YtoafcpbpnkfhoaaGreatDoor.Prs
open Go.RowKit
open Lex (Tok Laid)
attribute [local go_sem] tok0 tok1 tok2

/-- What stands at the head of each round. -/
structure BoAt (B G r q o d f : Nat) (cur : Array Value) (t : TypeId) (v : Value) (w : World) (n m : Nat) (R : Res (List Cn)) (x : Value) (wx : World) (fc : Nat) (vc : Value) (uc : List Tok) (dc : Option Nat) (lc : List Cn) : Prop where
  left : x = .int .i64 (lc.length - 1 : Nat)
  mv : Mv r q v w wx vc
  st : CnIn B G wx r q o cur t vc uc d dc lc
  eq : bothL fc uc d dc lc = R
  le : fc ≤ f
  sz : lc.length + uc.length ≤ n ∧ uc.length ≤ m
set_option maxRecDepth 100000 in
set_option maxHeartbeats 4000000 in
theorem both_step {f : Nat} (HCs : ∀ g, g ≤ f → OneSaid g) : BothSaid (f + 1) := by
  intro B G r q o d cur t v us dp l w h hne
  have HCH := Lib.hid HCs
  clear HCs
  have e : bothF (f + 1) us d dp l = (oneF f us d dp l).bind fun us dp l => bothL f us d dp l := by simp [bothF]
  rw [e] at hne ⊢; clear e
  have HH := Lib.hid h
  clear h
  cases hc : oneF f us d dp l with
  | out => rw [hc] at hne; exact absurd rfl hne
  | bad k =>
    have HX := Lib.hid (HCH.out f (Nat.le_refl _) w HH.out (by rw [hc]; simp))
    rw [hc] at HX
    clear hc hne
    go_enter Tryz.func85, Tryz.ntmps85
    go_wp2_with (go_at_call 94; refine (HX.out).mono ?_; rintro e w1 ⟨rfl, H1⟩)
    exact ⟨rfl, rfl, H1⟩
  | ok us1 dp1 l1 =>
    have HX := Lib.hid (HCH.out f (Nat.le_refl _) w HH.out (by rw [hc]; simp))
    rw [hc] at HX hne
    clear hc
    simp only [Res.bind] at hne ⊢
    generalize hR : bothL f us1 d dp1 l1 = R at *
    have HR := Lib.hid hR
    have Hne := Lib.hid hne
    clear hR hne
    go_enter Tryz.func85, Tryz.ntmps85
    go_wp2_with (go_at_call 94; refine (HX.out).mono ?_; rintro e w1 ⟨rfl, H1⟩)
    go_loopg [5, 6, 7] us1.length (fun k x _ _ wx => ∃ fc vc uc dc lc, k = uc.length ∧ BoAt B G r q o d f cur t v w (l.length + us.length) us.length R x wx fc vc uc dc lc)
    case atStart =>
      obtain ⟨v1, m1, i1, s1, s1'⟩ := H1.out
      exact ⟨f, v1, us1, dp1, l1, rfl, rfl, m1, i1, HR.out, Nat.le_refl _, s1, s1'⟩
    case round =>
      obtain ⟨fc, vc, uc, dc, lc, hk, ha⟩ := hrel
      obtain ⟨hleft, hmv, hst, heq, hle, hsz⟩ := ha
      cases fc with
      | zero => exact absurd (by rw [← heq]; simp [bothL]) Hne.out
      | succ fc =>
        cases uc with
        | nil => exact absurd (by rw [← heq]; simp [bothL]) Hne.out
        | cons x xs =>
          have HM := Lib.hid hmv
          have HI := Lib.hid hst
          have Hk := Lib.hid hk
          have Hz := Lib.hid hsz
          subst hleft
          by_cases hx : x.text = [97, 110, 100]
          case neg =>
            have HR2 : Hid (R = .ok (x :: xs) dc lc) := Lib.hid (by rw [← heq]; simp [bothL, hx])
            have HP := Lib.hid (is_no wr hst.rd hx)
            clear hmv hst heq hk hsz hx
            go_wp2_with (go_at_call 45; refine (HP.out).mono ?_; rintro e w2 ⟨rfl, H2⟩)
            go_ret
            rw [HR2.out]
            exact ⟨rfl, Lib.hid ⟨vc, HM.out.trans (Mv.kept H2.out), HI.out.kept H2.out, Hz.out.1, Hz.out.2⟩⟩
          case pos =>
            have HP := Lib.hid (is_yes wr hst.rd hx)
            have e : bothL (fc + 1) (x :: xs) d dc lc = (oneF fc xs d dc lc).bind fun us2 dp2 l2 => bothL fc us2 d dp2 (l2 ++ [⟨3, 0, [], [], (lc.length - 1 : Nat), (l2.length - 1 : Nat), x.place⟩]) := by simp [bothL, hx]
            rw [e] at heq
            clear hmv hst hk hsz hx e
            have hlx : xs.length ≤ (x :: xs).length := by simp
            cases hc : oneF fc xs d dc lc with
            | out => rw [hc] at heq; exact absurd heq.symm Hne.out
            | bad k =>
              rw [hc] at heq
              have HR2 := Lib.hid heq
              have Hc := Lib.hid hc
              clear heq hc
              go_upto_region 4 with (first | (go_at_call 45; refine (HP.out).mono ?_; rintro e w2 ⟨rfl, H2⟩) | (go_at_call 46; refine (next_any _ (HI.out.kept H2.out).rd).mono ?_; rintro e w3 ⟨rfl, H3⟩))
              have I3 := Lib.hid ((HI.out.kept H2.out).reader H3.out.1 H3.out.2 hlx)
              have HX2 := Lib.hid (HCH.out fc (by omega) _ I3.out (by rw [Hc.out]; simp))
              rw [Hc.out] at HX2
              go_wp2_with (go_at_call 94; refine (HX2.out).mono ?_; rintro e w4 ⟨rfl, H4⟩)
              refine ⟨rfl, ?_⟩
              rw [← HR2.out]
              exact ⟨rfl, Lib.hid (Below.trans (HH.out.below ((HM.out.trans (Mv.kept H2.out)).trans (Mv.reader H3.out.1))) H4.out)⟩
            | ok us2 dp2 l2 =>
              rw [hc] at heq
              simp only [Res.bind] at heq
              have HR2 := Lib.hid heq
              have Hc := Lib.hid hc
              clear heq hc
              go_upto_region 4 with (first | (go_at_call 45; refine (HP.out).mono ?_; rintro e w2 ⟨rfl, H2⟩) | (go_at_call 46; refine (next_any _ (HI.out.kept H2.out).rd).mono ?_; rintro e w3 ⟨rfl, H3⟩))
              have I3 := Lib.hid ((HI.out.kept H2.out).reader H3.out.1 H3.out.2 hlx)
              have HX2 := Lib.hid (HCH.out fc (by omega) _ I3.out (by rw [Hc.out]; simp))
              rw [Hc.out] at HX2
              go_upto_region 5 with (go_at_call 94; refine (HX2.out).mono ?_; rintro e w4 ⟨rfl, H4⟩)
              obtain ⟨v4, m4, i4, s4, s4'⟩ := H4.out
              obtain ⟨z1, z2⟩ := Hz.out
              simp only [List.length_cons] at z1 z2
              have hs0 := HH.out.sz
              have HA := Lib.hid (i4.addc ⟨3, 0, [], [], (lc.length - 1 : Nat), (l2.length - 1 : Nat), x.place⟩ 3 0 (lc.length - 1 : Nat) (l2.length - 1 : Nat) x.place (x := .slice none 0 0) (y := .slice none 0 0) ⟨rfl, rfl, rfl, rfl, rfl⟩ (World.ownsRow_nil _ _ _ _) (World.ownsRow_nil _ _ _ _) (by omega))
              have M4 := Lib.hid m4
              clear m4 i4
              go_wp2_with (go_at_call 86; refine (HA.out).mono ?_; rintro e w5 ⟨rfl, H5⟩)
              obtain ⟨v5, m5, i5⟩ := H5.out
              go_roundg us2.length
              case measure => have := Hk.out; simp only [List.length_cons] at this; omega
              case rel => exact ⟨fc, v5, us2, dp2, _, rfl, by simp, (((HM.out.trans (Mv.kept H2.out)).trans (Mv.reader H3.out.1)).trans M4.out).trans m5, i5, HR2.out, by omega, by simp; omega, by omega⟩
/-- What stands at the head of each round. -/
structure EiAt (B G r q o d f : Nat) (cur : Array Value) (t : TypeId) (v : Value) (w : World) (n m : Nat) (R : Res (List Cn)) (x : Value) (wx : World) (fc : Nat) (vc : Value) (uc : List Tok) (dc : Option Nat) (lc : List Cn) : Prop where
  left : x = .int .i64 (lc.length - 1 : Nat)
  mv : Mv r q v w wx vc
  st : CnIn B G wx r q o cur t vc uc d dc lc
  eq : eitherL fc uc d dc lc = R
  le : fc ≤ f
  sz : lc.length + uc.length ≤ n ∧ uc.length ≤ m
set_option maxRecDepth 100000 in
set_option maxHeartbeats 4000000 in
theorem either_step {f : Nat} (HCs : ∀ g, g ≤ f → BothSaid g) : EitherSaid (f + 1) := by
  intro B G r q o d cur t v us dp l w h hne
  have HCH := Lib.hid HCs
  clear HCs
  have e : eitherF (f + 1) us d dp l = (bothF f us d dp l).bind fun us dp l => eitherL f us d dp l := by simp [eitherF]
  rw [e] at hne ⊢; clear e
  have HH := Lib.hid h
  clear h
  cases hc : bothF f us d dp l with
  | out => rw [hc] at hne; exact absurd rfl hne
  | bad k =>
    have HX := Lib.hid (HCH.out f (Nat.le_refl _) w HH.out (by rw [hc]; simp))
    rw [hc] at HX
    clear hc hne
    go_enter Tryz.func71, Tryz.ntmps71
    go_wp2_with (go_at_call 85; refine (HX.out).mono ?_; rintro e w1 ⟨rfl, H1⟩)
    exact ⟨rfl, rfl, H1⟩
  | ok us1 dp1 l1 =>
    have HX := Lib.hid (HCH.out f (Nat.le_refl _) w HH.out (by rw [hc]; simp))
    rw [hc] at HX hne
    clear hc
    simp only [Res.bind] at hne ⊢
    generalize hR : eitherL f us1 d dp1 l1 = R at *
    have HR := Lib.hid hR
    have Hne := Lib.hid hne
    clear hR hne
    go_enter Tryz.func71, Tryz.ntmps71
    go_wp2_with (go_at_call 85; refine (HX.out).mono ?_; rintro e w1 ⟨rfl, H1⟩)
    go_loopg [5, 6, 7] us1.length (fun k x _ _ wx => ∃ fc vc uc dc lc, k = uc.length ∧ EiAt B G r q o d f cur t v w (l.length + us.length) us.length R x wx fc vc uc dc lc)
    case atStart =>
      obtain ⟨v1, m1, i1, s1, s1'⟩ := H1.out
      exact ⟨f, v1, us1, dp1, l1, rfl, rfl, m1, i1, HR.out, Nat.le_refl _, s1, s1'⟩
    case round =>
      obtain ⟨fc, vc, uc, dc, lc, hk, ha⟩ := hrel
      obtain ⟨hleft, hmv, hst, heq, hle, hsz⟩ := ha
      cases fc with
      | zero => exact absurd (by rw [← heq]; simp [eitherL]) Hne.out
      | succ fc =>
        cases uc with
        | nil => exact absurd (by rw [← heq]; simp [eitherL]) Hne.out
        | cons x xs =>
          have HM := Lib.hid hmv
          have HI := Lib.hid hst
          have Hk := Lib.hid hk
          have Hz := Lib.hid hsz
          subst hleft
          by_cases hx : x.text = [111, 114]
          case neg =>
            have HR2 : Hid (R = .ok (x :: xs) dc lc) := Lib.hid (by rw [← heq]; simp [eitherL, hx])
            have HP := Lib.hid (is_no wr hst.rd hx)
            clear hmv hst heq hk hsz hx
            go_wp2_with (go_at_call 45; refine (HP.out).mono ?_; rintro e w2 ⟨rfl, H2⟩)
            go_ret
            rw [HR2.out]
            exact ⟨rfl, Lib.hid ⟨vc, HM.out.trans (Mv.kept H2.out), HI.out.kept H2.out, Hz.out.1, Hz.out.2⟩⟩
          case pos =>
            have HP := Lib.hid (is_yes wr hst.rd hx)
            have e : eitherL (fc + 1) (x :: xs) d dc lc = (bothF fc xs d dc lc).bind fun us2 dp2 l2 => eitherL fc us2 d dp2 (l2 ++ [⟨4, 0, [], [], (lc.length - 1 : Nat), (l2.length - 1 : Nat), x.place⟩]) := by simp [eitherL, hx]
            rw [e] at heq
            clear hmv hst hk hsz hx e
            have hlx : xs.length ≤ (x :: xs).length := by simp
            cases hc : bothF fc xs d dc lc with
            | out => rw [hc] at heq; exact absurd heq.symm Hne.out
            | bad k =>
              rw [hc] at heq
              have HR2 := Lib.hid heq
              have Hc := Lib.hid hc
              clear heq hc
              go_upto_region 4 with (first | (go_at_call 45; refine (HP.out).mono ?_; rintro e w2 ⟨rfl, H2⟩) | (go_at_call 46; refine (next_any _ (HI.out.kept H2.out).rd).mono ?_; rintro e w3 ⟨rfl, H3⟩))
              have I3 := Lib.hid ((HI.out.kept H2.out).reader H3.out.1 H3.out.2 hlx)
              have HX2 := Lib.hid (HCH.out fc (by omega) _ I3.out (by rw [Hc.out]; simp))
              rw [Hc.out] at HX2
              go_wp2_with (go_at_call 85; refine (HX2.out).mono ?_; rintro e w4 ⟨rfl, H4⟩)
              refine ⟨rfl, ?_⟩
              rw [← HR2.out]
              exact ⟨rfl, Lib.hid (Below.trans (HH.out.below ((HM.out.trans (Mv.kept H2.out)).trans (Mv.reader H3.out.1))) H4.out)⟩
            | ok us2 dp2 l2 =>
              rw [hc] at heq
              simp only [Res.bind] at heq
              have HR2 := Lib.hid heq
              have Hc := Lib.hid hc
              clear heq hc
              go_upto_region 4 with (first | (go_at_call 45; refine (HP.out).mono ?_; rintro e w2 ⟨rfl, H2⟩) | (go_at_call 46; refine (next_any _ (HI.out.kept H2.out).rd).mono ?_; rintro e w3 ⟨rfl, H3⟩))
              have I3 := Lib.hid ((HI.out.kept H2.out).reader H3.out.1 H3.out.2 hlx)
              have HX2 := Lib.hid (HCH.out fc (by omega) _ I3.out (by rw [Hc.out]; simp))
              rw [Hc.out] at HX2
              go_upto_region 5 with (go_at_call 85; refine (HX2.out).mono ?_; rintro e w4 ⟨rfl, H4⟩)
              obtain ⟨v4, m4, i4, s4, s4'⟩ := H4.out
              obtain ⟨z1, z2⟩ := Hz.out
              simp only [List.length_cons] at z1 z2
              have hs0 := HH.out.sz
              have HA := Lib.hid (i4.addc ⟨4, 0, [], [], (lc.length - 1 : Nat), (l2.length - 1 : Nat), x.place⟩ 4 0 (lc.length - 1 : Nat) (l2.length - 1 : Nat) x.place (x := .slice none 0 0) (y := .slice none 0 0) ⟨rfl, rfl, rfl, rfl, rfl⟩ (World.ownsRow_nil _ _ _ _) (World.ownsRow_nil _ _ _ _) (by omega))
              have M4 := Lib.hid m4
              clear m4 i4
              go_wp2_with (go_at_call 86; refine (HA.out).mono ?_; rintro e w5 ⟨rfl, H5⟩)
              obtain ⟨v5, m5, i5⟩ := H5.out
              go_roundg us2.length
              case measure => have := Hk.out; simp only [List.length_cons] at this; omega
              case rel => exact ⟨fc, v5, us2, dp2, _, rfl, by simp, (((HM.out.trans (Mv.kept H2.out)).trans (Mv.reader H3.out.1)).trans M4.out).trans m5, i5, HR2.out, by omega, by simp; omega, by omega⟩
theorem all_conds (f : Nat) : OneSaid f ∧ BothSaid f ∧ EitherSaid f := by
  induction f using Nat.strongRecOn with
  | _ f ih =>
    cases f with
    | zero => exact ⟨fun _ _ h => absurd (by simp [oneF]) h, fun _ _ h => absurd (by simp [bothF]) h, fun _ _ h => absurd (by simp [eitherF]) h⟩
    | succ f => exact ⟨one_step (ih f (by omega)).2.2 (ih f (by omega)).1, both_step (fun g hg => (ih g (by omega)).1), either_step (fun g hg => (ih g (by omega)).2.1)⟩

/-- A list of conditions of the call's own. -/
def CnOwn (w : World) (B : Nat) (v : Value) (l : List Cn) : Prop := ∃ xs, w.ownsRow B 142 7 v l.length xs ∧ CnCells w B l xs
/-- What cond leaves: a new list. -/
def CondPost (B G r : Nat) (w : World) (us : List Tok) (d : Nat) : Res (List Cn) → Ending → World → Prop
  | .out, _, _ => False
  | .bad k, e, w' => Bad B w k e w'
  | .ok us' dp' l, e, w' => ∃ x, e = .returned x ∧ Hid (Chg (fun k => k = r) w w' ∧ Rd B G w' r us' d dp' ∧ CnOwn w' B x l ∧ us'.length ≤ us.length)
set_option maxRecDepth 100000 in
set_option maxHeartbeats 1000000 in
theorem cond_any {f : Nat} {B G r d : Nat} {us : List Tok} {dp : Option Nat} (w : World) (h : Rd B G w r us d dp) (hne : condF f us d dp ≠ .out) :
    Calls Tryz.prog 64 #[.pointer (some ⟨r, 0, none⟩)] w (CondPost B G r w us d (condF f us d dp)) := by
  have hk0 := (Kept.refl w).alloc (.cells #[.slice none 0 0] 41)
  have I : CnIn B G (w.alloc (.cells #[.slice none 0 0] 41)) r w.heap.size 0 #[.slice none 0 0] 41 (.slice none 0 0) us d dp [] :=
    ⟨h.kept hk0, heap_alloc_new w _, by simp, by decide, ⟨[], World.ownsRow_nil _ _ _ _, rfl⟩, by have := h.low; simp; omega, h.size⟩
  have HX := Lib.hid ((all_conds f).2.2 _ I hne)
  have HH := Lib.hid h
  have Hk0 := Lib.hid hk0
  have hsz := h.size
  clear h hk0 I
  unfold condF at hne ⊢
  cases hc : eitherF f us d dp [] with
  | out => exact absurd hc hne
  | bad k =>
    rw [hc] at HX
    clear hc hne
    go_enter Tryz.func64, Tryz.ntmps64
    go_wp2_with (go_at_call 71; refine (HX.out).mono ?_; rintro e w1 ⟨rfl, H1⟩)
    exact ⟨rfl, rfl, Lib.hid (Below.trans (Below.mono Hk0.out hsz) H1.out)⟩
  | ok us2 dp2 l2 =>
    rw [hc] at HX
    clear hc hne
    go_enter Tryz.func64, Tryz.ntmps64
    go_upto_region 3 with (go_at_call 71; refine (HX.out).mono ?_; rintro e w1 ⟨rfl, H1⟩)
    obtain ⟨v1, m1, i1, s1, s1'⟩ := H1.out
    have c0 : w1.cell? ⟨w.heap.size, 0, none⟩ = some v1 := box_cell i1.box 0 v1 i1.cell
    have M1 := Lib.hid m1
    have I1 := Lib.hid i1
    clear m1 i1 s1
    go_wp2_with fail
    go_ret
    refine ⟨v1, rfl, Lib.hid ⟨(Chg.of_kept Hk0.out).trans M1.out.chg ?_, I1.out.rd, I1.out.own, s1'⟩⟩
    intro i hi hs
    rcases hs with hs | hs | hs
    · exact hs
    · omega
    · cases hs
end Go.Proofs.YtoafcpbpnkfhoaaGreatDoor.Prs
