/-
  The contract of chain (operators of one level), of all functions that read expressions at whatever number of steps, and of expr.
-/
import Derived.Test.YtoafcpbpnkfhoaaGreatDoorPrsF
import Derived.Deep.LoopGhost
import Derived.WalkMore
namespace Go.Proofs.YtoafcpbpnkfhoaaGreatDoor.Prs
open Go.RowKit
open Lex (Tok Laid)
attribute [local go_sem] tok0 tok1 tok2

theorem op_yes {s : List UInt8} {lvl : Nat} (h : (opF s).2 = lvl) (hl : lvl < 4) (w : World) : Calls Tryz.prog 98 #[.string ⟨s.toArray⟩] w fun e w' => e = .returned (.tuple #[.int .i64 (opF s).1, .int .i64 lvl]) ∧ w = w' := by
  have := operator_any s w
  rw [if_neg (by omega), h] at this
  exact this
theorem op_no {s : List UInt8} {lvl : Nat} (h : (opF s).2 ≠ lvl) : ∃ ow : Int, (ow == (lvl : Int)) = false ∧ ∀ w : World, Calls Tryz.prog 98 #[.string ⟨s.toArray⟩] w fun e w' => e = .returned (.tuple #[.int .i64 (opF s).1, .int .i64 ow]) ∧ w = w' := by
  refine ⟨_, ?_, operator_any s⟩
  rw [beq_eq_false_iff_ne]
  split <;> omega

/-- What stands at the head of each round. -/
structure ChAt (B G r q o d lvl f : Nat) (cur : Array Value) (t : TypeId) (v : Value) (w : World) (n m : Nat) (R : Res (List Ex)) (x : Value) (wx : World) (fc : Nat) (vc : Value) (uc : List Tok) (dc : Option Nat) (lc : List Ex) : Prop where
  left : x = .int .i64 (lc.length - 1 : Nat)
  mv : Mv r q v w wx vc
  st : ExIn B G wx r q o cur t vc uc d dc lc
  eq : loopF fc lvl uc d dc lc = R
  le : fc ≤ f
  sz : lc.length + uc.length ≤ n ∧ uc.length ≤ m

set_option maxRecDepth 100000 in
set_option maxHeartbeats 4000000 in
theorem chain_step {f : Nat} (HCs : ∀ g, g ≤ f → ChainSaid g) (HU : UnarySaid f) : ChainSaid (f + 1) := by
  intro B G r q o d lvl cur t v us dp l w hl h hne
  have HCH := Lib.hid HCs
  clear HCs
  by_cases h4 : lvl = 4
  · subst h4
    have e : chainF (f + 1) 4 us d dp l = unaryF f us d dp l := by simp [chainF]
    rw [e] at hne ⊢; clear e
    have HX := Lib.hid (HU w h hne)
    have Hne := Lib.hid hne
    clear h hne
    cases hc : unaryF f us d dp l with
    | out => exact absurd hc Hne.out
    | bad k =>
      rw [hc] at HX
      clear hc
      go_enter Tryz.func95, Tryz.ntmps95
      go_wp2_with fail
      go_step3
      go_wp2_with (go_at_call 97; refine (HX.out).mono ?_; rintro e w1 ⟨rfl, H1⟩)
      exact ⟨rfl, rfl, H1⟩
    | ok us2 dp2 l2 =>
      rw [hc] at HX
      clear hc
      go_enter Tryz.func95, Tryz.ntmps95
      go_wp2_with fail
      go_step3
      go_wp2_with (go_at_call 97; refine (HX.out).mono ?_; rintro e w1 ⟨rfl, H1⟩)
      rw [Exit.noGoto_ret]
      go_ret
      exact ⟨rfl, H1⟩
  have hlt : lvl < 4 := by omega
  have hb4 : ((lvl : Int) == 4) = false := by simp; omega
  have e : chainF (f + 1) lvl us d dp l = (chainF f (lvl + 1) us d dp l).bind fun us dp l => loopF f lvl us d dp l := by simp [chainF, h4]
  rw [e] at hne ⊢; clear e
  have HH := Lib.hid h
  clear h h4
  cases hc : chainF f (lvl + 1) us d dp l with
  | out => rw [hc] at hne; exact absurd rfl hne
  | bad k =>
    have HX := Lib.hid (HCH.out f (Nat.le_refl _) (lvl := lvl + 1) w (by omega) HH.out (by rw [hc]; simp))
    rw [hc] at HX
    clear hc hne
    go_enter Tryz.func95, Tryz.ntmps95
    go_wp2_with fail
    go_step3
    go_wp2_with (go_at_call 95; refine (HX.out).mono ?_; rintro e w1 ⟨rfl, H1⟩)
    exact ⟨rfl, rfl, H1⟩
  | ok us1 dp1 l1 =>
    have HX := Lib.hid (HCH.out f (Nat.le_refl _) (lvl := lvl + 1) w (by omega) HH.out (by rw [hc]; simp))
    rw [hc] at HX hne
    clear hc
    simp only [Res.bind] at hne ⊢
    generalize hR : loopF f lvl us1 d dp1 l1 = R at *
    have HR := Lib.hid hR
    have Hne := Lib.hid hne
    clear hR hne
    go_enter Tryz.func95, Tryz.ntmps95
    go_wp2_with fail
    go_step3
    go_wp2_with (go_at_call 95; refine (HX.out).mono ?_; rintro e w1 ⟨rfl, H1⟩)
    go_step3
    go_wp2_with fail
    go_loopg [7, 8, 9, 10, 11] us1.length (fun k x _ _ _ _ wx => ∃ fc vc uc dc lc, k = uc.length ∧ ChAt B G r q o d lvl f cur t v w (l.length + us.length) us.length R x wx fc vc uc dc lc)
    case atStart =>
      obtain ⟨v1, m1, i1, s1, s1'⟩ := H1.out
      exact ⟨f, v1, us1, dp1, l1, rfl, rfl, m1, i1, HR.out, Nat.le_refl _, s1, s1'⟩
    case round =>
      obtain ⟨fc, vc, uc, dc, lc, hk, ha⟩ := hrel
      obtain ⟨hleft, hmv, hst, heq, hle, hsz⟩ := ha
      cases fc with
      | zero => exact absurd (by rw [← heq]; simp [loopF]) Hne.out
      | succ fc =>
        cases uc with
        | nil => exact absurd (by rw [← heq]; simp [loopF]) Hne.out
        | cons x xs =>
          have HP := Lib.hid (peek_any wr hst.rd)
          have HM := Lib.hid hmv
          have HI := Lib.hid hst
          have Hk := Lib.hid hk
          have Hz := Lib.hid hsz
          subst hleft
          by_cases hx : (opF x.text).2 = lvl
          case neg =>
            have HR2 : Hid (R = .ok (x :: xs) dc lc) := Lib.hid (by rw [← heq]; simp [loopF, hx])
            obtain ⟨ow, how, hop⟩ := op_no hx
            have HO := Lib.hid hop
            clear hmv hst heq hk hsz hx hop
            go_wp2_with (first | (go_at_call 14; refine (HP.out).mono ?_; rintro e w2 ⟨rfl, H2⟩) | (go_at_call 98; refine (HO.out _).mono ?_; rintro e w' ⟨rfl, rfl⟩))
            rw [Exit.noGoto_ret]
            go_ret
            rw [HR2.out]
            exact ⟨rfl, Lib.hid ⟨vc, HM.out.trans (Mv.kept H2.out), HI.out.kept H2.out, Hz.out.1, Hz.out.2⟩⟩
          case pos =>
            have HO := Lib.hid (op_yes hx hlt)
            have e : loopF (fc + 1) lvl (x :: xs) d dc lc = (chainF fc (lvl + 1) xs d dc lc).bind fun us2 dp2 l2 => loopF fc lvl us2 d dp2 (l2 ++ [⟨(opF x.text).1, 0, 0, [], (lc.length - 1 : Nat), (l2.length - 1 : Nat), x.place⟩]) := by simp [loopF, hx]
            rw [e] at heq
            clear hmv hst hk hsz hx e
            generalize (opF x.text).1 = K at *
            have hlx : xs.length ≤ (x :: xs).length := by simp
            cases hc : chainF fc (lvl + 1) xs d dc lc with
            | out => rw [hc] at heq; exact absurd heq.symm Hne.out
            | bad k =>
              rw [hc] at heq
              have HR2 := Lib.hid heq
              have Hc := Lib.hid hc
              clear heq hc
              go_upto_region 8 with (first | (go_at_call 14; refine (HP.out).mono ?_; rintro e w2 ⟨rfl, H2⟩) | (go_at_call 98; refine (HO.out _).mono ?_; rintro e w' ⟨rfl, rfl⟩) | (go_at_call 46; refine (next_any _ (HI.out.kept H2.out).rd).mono ?_; rintro e w3 ⟨rfl, H3⟩))
              have I3 := Lib.hid ((HI.out.kept H2.out).reader H3.out.1 H3.out.2 hlx)
              have HX2 := Lib.hid (HCH.out fc (by omega) (lvl := lvl + 1) _ (by omega) I3.out (by rw [Hc.out]; simp))
              rw [Hc.out] at HX2
              go_wp2_with (go_at_call 95; refine (HX2.out).mono ?_; rintro e w4 ⟨rfl, H4⟩)
              refine ⟨rfl, ?_⟩
              rw [← HR2.out]
              exact ⟨rfl, Lib.hid (Below.trans (Mv.below HH.out ((HM.out.trans (Mv.kept H2.out)).trans (Mv.reader H3.out.1))) H4.out)⟩
            | ok us2 dp2 l2 =>
              rw [hc] at heq
              simp only [Res.bind] at heq
              have HR2 := Lib.hid heq
              have Hc := Lib.hid hc
              clear heq hc
              go_upto_region 8 with (first | (go_at_call 14; refine (HP.out).mono ?_; rintro e w2 ⟨rfl, H2⟩) | (go_at_call 98; refine (HO.out _).mono ?_; rintro e w' ⟨rfl, rfl⟩) | (go_at_call 46; refine (next_any _ (HI.out.kept H2.out).rd).mono ?_; rintro e w3 ⟨rfl, H3⟩))
              have I3 := Lib.hid ((HI.out.kept H2.out).reader H3.out.1 H3.out.2 hlx)
              have HX2 := Lib.hid (HCH.out fc (by omega) (lvl := lvl + 1) _ (by omega) I3.out (by rw [Hc.out]; simp))
              rw [Hc.out] at HX2
              go_upto_region 9 with (go_at_call 95; refine (HX2.out).mono ?_; rintro e w4 ⟨rfl, H4⟩)
              obtain ⟨v4, m4, i4, s4, s4'⟩ := H4.out
              have HA := Lib.hid (addExpr_any ⟨K, 0, 0, [], (lc.length - 1 : Nat), (l2.length - 1 : Nat), x.place⟩ K 0 0 (lc.length - 1 : Nat) (l2.length - 1 : Nat) x.place ⟨#[]⟩ _ i4.box i4.cell i4.ty.1 i4.own i4.size (by have := i4.sz; omega) rfl)
              have M4 := Lib.hid m4
              have I4 := Lib.hid i4
              have S4 := Lib.hid (And.intro s4 s4')
              clear m4 i4 s4 s4'
              go_wp2_with (go_at_call 99; refine (HA.out).mono ?_; rintro e w5 ⟨rfl, H5⟩)
              obtain ⟨s4, s4'⟩ := S4.out
              obtain ⟨z1, z2⟩ := Hz.out
              simp only [List.length_cons] at z1 z2
              obtain ⟨v5, m5, i5⟩ := I4.out.add (by have := HH.out.sz; omega) H5.out
              go_roundg us2.length
              case measure => have := Hk.out; simp only [List.length_cons] at this; omega
              case rel => exact ⟨fc, v5, us2, dp2, _, rfl, by simp, (((HM.out.trans (Mv.kept H2.out)).trans (Mv.reader H3.out.1)).trans M4.out).trans m5, i5, HR2.out, by omega, by simp; omega, by omega⟩

theorem unary_one : UnarySaid 1 := by
  intro B G r q o d cur t v us dp l w h hne
  cases us with
  | nil => exact absurd (by simp [unaryF]) hne
  | cons u us =>
    by_cases h2 : u.kind = 2
    · exact unary_num w h h2
    by_cases h1 : u.kind = 1
    · exact absurd (by simp [unaryF, h1, namedF]) hne
    by_cases h4 : u.text = [114, 101, 115, 117, 108, 116]
    · exact unary_result w h h2 h1 h4
    refine absurd ?_ hne
    simp only [unaryF, h2, h1, h4, if_false, bracketF, signedF, Res.bind]
    split
    · rfl
    split
    · rfl
    split
    · rfl
    split <;> rfl
theorem all_said (f : Nat) : ChainSaid f ∧ UnarySaid f ∧ BracketSaid f ∧ IndexSaid f ∧ SignedSaid f := by
  induction f using Nat.strongRecOn with
  | _ f ih =>
    cases f with
    | zero => exact ⟨fun _ _ _ h => absurd (by simp [chainF]) h, fun _ _ h => absurd (by simp [unaryF]) h, fun _ _ h => absurd (by simp [bracketF]) h, fun _ _ h => absurd (by simp [bracketF]) h, fun _ _ h => absurd (by simp [signedF]) h⟩
    | succ f =>
      refine ⟨chain_step (fun g hg => (ih g (by omega)).1) (ih f (by omega)).2.1, ?_, bracket_step (ih f (by omega)).1, index_step (ih f (by omega)).1, signed_step (ih f (by omega)).2.1⟩
      cases f with
      | zero => exact unary_one
      | succ f => exact unary_step (ih (f + 1) (by omega)).2.2.1 (ih (f + 1) (by omega)).2.2.2.2 (ih f (by omega)).2.2.2.1

theorem own_from {w : World} {base base' n size : Nat} {e : TypeId} {v : Value} {xs : List Value} (h : w.ownsRow base e size v n xs) (hb : ∀ g, v.ownBlock = some g → base' ≤ g) : w.ownsRow base' e size v n xs := by
  refine ⟨h.1, ?_⟩
  rcases h.2 with h | ⟨g, cap, cur, rfl, h2, h3⟩
  · exact .inl h
  · exact .inr ⟨g, cap, cur, rfl, hb g rfl, h3⟩
/-- What expr leaves: a new list. -/
def ExprPost (B G r : Nat) (w : World) (us : List Tok) (d : Nat) : Res (List Ex) → Ending → World → Prop
  | .out, _, _ => False
  | .bad k, e, w' => Bad B w k e w'
  | .ok us' dp' l, e, w' => ∃ x, e = .returned x ∧ Hid (Chg (fun k => k = r) w w' ∧ Rd B G w' r us' d dp' ∧ w'.ownsRow w.heap.size 152 7 x l.length (exCells l) ∧ us'.length ≤ us.length)
set_option maxRecDepth 100000 in
set_option maxHeartbeats 1000000 in
theorem expr_any {f : Nat} {B G r d : Nat} {us : List Tok} {dp : Option Nat} (w : World) (h : Rd B G w r us d dp) (hne : exprF f us d dp ≠ .out) :
    Calls Tryz.prog 87 #[.pointer (some ⟨r, 0, none⟩)] w (ExprPost B G r w us d (exprF f us d dp)) := by
  have hk0 := (Kept.refl w).alloc (.cells #[.slice none 0 0] 39)
  have I : ExIn B G (w.alloc (.cells #[.slice none 0 0] 39)) r w.heap.size 0 #[.slice none 0 0] 39 (.slice none 0 0) us d dp [] :=
    ⟨h.kept hk0, heap_alloc_new w _, by simp, by decide, World.ownsRow_nil _ _ _ _, by have := h.low; simp; omega, h.size⟩
  have HX := Lib.hid ((all_said f).1 (lvl := 0) _ (by omega) I hne)
  have HH := Lib.hid h
  have Hk0 := Lib.hid hk0
  have hsz := h.size
  clear h hk0 I
  unfold exprF at hne ⊢
  cases hc : chainF f 0 us d dp [] with
  | out => exact absurd hc hne
  | bad k =>
    rw [hc] at HX
    clear hc hne
    go_enter Tryz.func87, Tryz.ntmps87
    go_wp2_with (go_at_call 95; refine (HX.out).mono ?_; rintro e w1 ⟨rfl, H1⟩)
    exact ⟨rfl, rfl, Lib.hid (Below.trans (Below.mono Hk0.out hsz) H1.out)⟩
  | ok us2 dp2 l2 =>
    rw [hc] at HX
    clear hc hne
    go_enter Tryz.func87, Tryz.ntmps87
    go_upto_region 3 with (go_at_call 95; refine (HX.out).mono ?_; rintro e w1 ⟨rfl, H1⟩)
    obtain ⟨v1, m1, i1, s1, s1'⟩ := H1.out
    have c0 : w1.cell? ⟨w.heap.size, 0, none⟩ = some v1 := box_cell i1.box 0 v1 i1.cell
    have M1 := Lib.hid m1
    have I1 := Lib.hid i1
    clear m1 i1 s1
    go_wp2_with fail
    go_ret
    refine ⟨v1, rfl, Lib.hid ⟨(Chg.of_kept Hk0.out).trans M1.out.chg ?_, I1.out.rd, own_from I1.out.own ?_, s1'⟩⟩
    · intro i hi hs
      rcases hs with hs | hs | hs
      · exact hs
      · omega
      · cases hs
    · intro g hg
      rcases M1.out.at_ with e | ⟨g', e, h'⟩
      · rw [e] at hg; cases hg
      · rw [e] at hg; injection hg with hg; have := Below.size Hk0.out; omega
end Go.Proofs.YtoafcpbpnkfhoaaGreatDoor.Prs
