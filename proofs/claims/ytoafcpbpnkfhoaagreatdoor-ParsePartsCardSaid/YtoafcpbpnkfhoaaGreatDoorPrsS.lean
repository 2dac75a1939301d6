/-
  Contracts of stmtByWord, stmt, branch (without else) and block, each out of those that it calls, where the text is one of these.
-/
import Derived.Test.YtoafcpbpnkfhoaaGreatDoorPrsR
namespace Go.Proofs.YtoafcpbpnkfhoaaGreatDoor.Prs
open Go.RowKit
open Lex (Tok Laid)
attribute [local go_sem] tok0 tok1 tok2

mutual
def blockF : Nat → List Tok → Nat → Option Nat → Option (List Tok × Option Nat × List St)
  | 0, _, _, _ => none
  | f + 1, us, d, dp =>
    match us with
    | [] => none
    | t :: us1 => if t.text = [123] then stmtsF f us1 (d + 1) (dpF d dp t.place) [] else none
def stmtsF : Nat → List Tok → Nat → Option Nat → List St → Option (List Tok × Option Nat × List St)
  | 0, _, _, _, _ => none
  | f + 1, us, d, dp, l =>
    match us with
    | [] => none
    | t :: us1 => if t.text = [125] then some (us1, dp, l) else match wordF f us d dp with | some (us2, dp2, k) => stmtsF f us2 d dp2 (l ++ [⟨k, t.place⟩]) | none => none
def wordF : Nat → List Tok → Nat → Option Nat → Option (List Tok × Option Nat × Nat)
  | 0, _, _, _ => none
  | f + 1, us, d, dp =>
    match us with
    | [] => none
    | t :: us1 =>
      if t.text = [105, 102] then branchF f us1 d dp
      else if t.text = [98, 114, 101, 97, 107] then bareF 8 us1 dp
      else if t.text = [99, 111, 110, 116, 105, 110, 117, 101] then bareF 9 us1 dp
      else if t.text = [114, 101, 116, 117, 114, 110] then bareF 10 us1 dp
      else none
def bareF (k : Nat) (us : List Tok) (dp : Option Nat) : Option (List Tok × Option Nat × Nat) :=
  match us with
  | [] => none
  | s :: us2 => if s.text = [59] then some (us2, dp, k) else none
def branchF : Nat → List Tok → Nat → Option Nat → Option (List Tok × Option Nat × Nat)
  | 0, _, _, _ => none
  | f + 1, us, d, dp =>
    match condF f us d dp with
    | .ok us2 dp2 _ => match blockF f us2 d dp2 with | some (u :: us3, dp3, _) => if u.text = [101, 108, 115, 101] then none else some (u :: us3, dp3, 6) | _ => none
    | _ => none
end
def BlockSaid (f : Nat) : Prop := ∀ {B G r d : Nat} {us us' : List Tok} {dp dp' : Option Nat} {l : List St} (w : World), Rd B G w r us d dp → blockF f us d dp = some (us', dp', l) →
  Calls Tryz.prog 31 #[.pointer (some ⟨r, 0, none⟩)] w fun e w' => ∃ a c, e = .returned (.slice a l.length c) ∧ Hid (Chg (fun k => k = r) w w' ∧ Rd B G w' r us' d dp' ∧ StOwn w' B (.slice a l.length c) l ∧ us'.length + 1 ≤ us.length)
def WordSaid (f : Nat) : Prop := ∀ {B G r d k : Nat} {us us' : List Tok} {dp dp' : Option Nat} (w : World), Rd B G w r us d dp → wordF f us d dp = some (us', dp', k) →
  Calls Tryz.prog 66 #[.pointer (some ⟨r, 0, none⟩)] w fun e w' => ∃ ac nc cc ab nb cb, e = .returned (.agg #[.int .i64 k, .int .i64 0, .string ⟨#[]⟩, .int .i64 0, .int .i64 0, .slice none 0 0, .slice none 0 0, .bool false, .string ⟨#[]⟩, .slice none 0 0, .slice ac nc cc, .slice none 0 0, .slice none 0 0, .slice ab nb cb, .slice none 0 0]) ∧ Hid (Chg (fun k => k = r) w w' ∧ Rd B G w' r us' d dp' ∧ us'.length + 1 ≤ us.length)
def BranchSaid (f : Nat) : Prop := ∀ {B G r d k : Nat} {t : Tok} {us us' : List Tok} {dp dp' : Option Nat} (w : World), Rd B G w r (t :: us) d dp → t.text = [105, 102] → branchF f us d dp = some (us', dp', k) →
  Calls Tryz.prog 74 #[.pointer (some ⟨r, 0, none⟩)] w fun e w' => ∃ ac nc cc ab nb cb, e = .returned (.agg #[.int .i64 k, .int .i64 0, .string ⟨#[]⟩, .int .i64 0, .int .i64 0, .slice none 0 0, .slice none 0 0, .bool false, .string ⟨#[]⟩, .slice none 0 0, .slice ac nc cc, .slice none 0 0, .slice none 0 0, .slice ab nb cb, .slice none 0 0]) ∧ Hid (Chg (fun k => k = r) w w' ∧ Rd B G w' r us' d dp' ∧ us'.length ≤ us.length)

set_option maxRecDepth 100000 in
set_option maxHeartbeats 8000000 in
theorem branch_step {f : Nat} (HBl : BlockSaid f) : BranchSaid (f + 1) := by
  intro B G r d k t us us' dp dp' w h ht hs
  simp only [branchF] at hs
  cases hc : condF f us d dp with
  | out => rw [hc] at hs; cases hs
  | bad p => rw [hc] at hs; cases hs
  | ok us2 dp2 cs =>
    rw [hc] at hs
    simp only at hs
    cases hb : blockF f us2 d dp2 with
    | none => rw [hb] at hs; cases hs
    | some p =>
      obtain ⟨us3, dp3, l⟩ := p
      rw [hb] at hs
      cases us3 with
      | nil => cases hs
      | cons u us3 =>
        simp only at hs
        by_cases hu : u.text = [101, 108, 115, 101]
        · rw [if_pos hu] at hs; cases hs
        rw [if_neg hu] at hs
        simp only [Option.some.injEq, Prod.mk.injEq] at hs
        obtain ⟨rfl, rfl, rfl⟩ := hs
        have hk0 := (Kept.refl w).alloc (.cells #[.int .i64 0, .int .i64 0, .string ⟨#[]⟩, .int .i64 0, .int .i64 0, .slice none 0 0, .slice none 0 0, .bool false, .string ⟨#[]⟩, .slice none 0 0, .slice none 0 0, .slice none 0 0, .slice none 0 0, .slice none 0 0, .slice none 0 0] 43)
        have H1 := Lib.hid (take_yes _ (h.kept hk0) ht)
        have Hk0 := Lib.hid hk0
        have hB := h.size
        have hrw := h.lt
        have hGw := h.ltG
        have B0 := Lib.hid (heap_alloc_new w (.cells #[.int .i64 0, .int .i64 0, .string ⟨#[]⟩, .int .i64 0, .int .i64 0, .slice none 0 0, .slice none 0 0, .bool false, .string ⟨#[]⟩, .slice none 0 0, .slice none 0 0, .slice none 0 0, .slice none 0 0, .slice none 0 0, .slice none 0 0] 43))
        have Hc := Lib.hid hc
        have Hb := Lib.hid hb
        have Hu := Lib.hid hu
        have HB2 : Hid (BlockSaid f) := @HBl
        clear h ht hk0 hc hb hu HBl
        go_enter Tryz.func74, Tryz.ntmps74
        go_upto_region 2 with (go_at_call 23; refine (H1.out).mono ?_; rintro e w1 ⟨rfl, K1⟩)
        have H2 := Lib.hid (cond_any (f := f) _ K1.out.2 (by rw [Hc.out]; simp))
        rw [Hc.out] at H2
        go_upto_region 3 with (first | (go_at_call 64; refine (H2.out).mono ?_; rintro e w2 ⟨x, rfl, K2⟩; obtain ⟨xs, hxs, _⟩ := K2.out.2.2.1; obtain ⟨ac, cc, rfl⟩ := own_slice hxs; clear hxs) | (go_at_call 31; refine (HB2.out _ K2.out.2.1 Hb.out).mono ?_; rintro e w3 ⟨ab, cb, rfl, K3⟩))
        have nc : Nat := cs.length
        have nb : Nat := l.length
        have kA := (Kept.refl w3).alloc (.cells #[.int .i64 6, .int .i64 0, .string ⟨#[]⟩, .int .i64 0, .int .i64 0, .slice none 0 0, .slice none 0 0, .bool false, .string ⟨#[]⟩, .slice none 0 0, .slice ac cs.length cc, .slice none 0 0, .slice none 0 0, .slice ab l.length cb, .slice none 0 0] 43)
        have RA := K3.out.2.1.kept kA
        have H4 := Lib.hid (skip_no _ RA Hu.out)
        have c13 := (K1.out.1.then K2.out.1).then K3.out.1
        have hs1 : w.heap.size < w3.heap.size := by have := c13.size; simp at this; omega
        have B1 := Lib.hid (heap_alloc_new w3 (.cells #[.int .i64 6, .int .i64 0, .string ⟨#[]⟩, .int .i64 0, .int .i64 0, .slice none 0 0, .slice none 0 0, .bool false, .string ⟨#[]⟩, .slice none 0 0, .slice ac cs.length cc, .slice none 0 0, .slice none 0 0, .slice ab l.length cb, .slice none 0 0] 43))
        have B0A := Lib.hid ((c13.keep kA).heap B0.out (by omega))
        have HRA := Lib.hid RA
        have C13 := Lib.hid c13
        have HkA := Lib.hid kA
        clear RA kA c13
        go_upto_region 5 with (go_at_call 27; refine (H4.out).mono ?_; rintro e w4 ⟨rfl, K4⟩)
        have hb0 := (Below.block K4.out _ (box_lt B0A.out)).trans B0A.out
        have hb1 := (Below.block K4.out _ (box_lt B1.out)).trans B1.out
        have l0 := box_cell hb0 0 _ rfl
        have l1 := box_cell hb0 1 _ rfl
        have l2 := box_cell hb0 2 _ rfl
        have l3 := box_cell hb0 3 _ rfl
        have l4 := box_cell hb0 4 _ rfl
        have l5 := box_cell hb0 5 _ rfl
        have l6 := box_cell hb0 6 _ rfl
        have l7 := box_cell hb0 7 _ rfl
        have l8 := box_cell hb0 8 _ rfl
        have l9 := box_cell hb0 9 _ rfl
        have l10 := box_cell hb0 10 _ rfl
        have l11 := box_cell hb0 11 _ rfl
        have l12 := box_cell hb0 12 _ rfl
        have l13 := box_cell hb0 13 _ rfl
        have l14 := box_cell hb0 14 _ rfl
        have o0 := box_cell hb1 0 _ rfl
        have o1 := box_cell hb1 1 _ rfl
        have o2 := box_cell hb1 2 _ rfl
        have o3 := box_cell hb1 3 _ rfl
        have o4 := box_cell hb1 4 _ rfl
        have o5 := box_cell hb1 5 _ rfl
        have o6 := box_cell hb1 6 _ rfl
        have o7 := box_cell hb1 7 _ rfl
        have o8 := box_cell hb1 8 _ rfl
        have o9 := box_cell hb1 9 _ rfl
        have o10 := box_cell hb1 10 _ rfl
        have o11 := box_cell hb1 11 _ rfl
        have o12 := box_cell hb1 12 _ rfl
        have o13 := box_cell hb1 13 _ rfl
        have o14 := box_cell hb1 14 _ rfl
        have lf := box_froz hb0
        clear hb0 hb1 nc nb
        go_wp2
        refine bodyPost_ret (v := .agg #[.int .i64 6, .int .i64 0, .string ⟨#[]⟩, .int .i64 0, .int .i64 0, .slice none 0 0, .slice none 0 0, .bool false, .string ⟨#[]⟩, .slice none 0 0, .slice ac cs.length cc, .slice none 0 0, .slice none 0 0, .slice ab l.length cb, .slice none 0 0]) ?_ rfl ⟨ac, cs.length, cc, ab, l.length, cb, rfl, Lib.hid ?_⟩
        · simp [results, Tryz.results74, go_sem, l0, l1, l2, l3, l4, l5, l6, l7, l8, l9, l10, l11, l12, l13, l14]
        have c5 := chg_set15 w4 w.heap.size (.int .i64 6) (.int .i64 0) (.string ⟨#[]⟩) (.int .i64 0) (.int .i64 0) (.slice none 0 0) (.slice none 0 0) (.bool false) (.string ⟨#[]⟩) (.slice none 0 0) (.slice ac cs.length cc) (.slice none 0 0) (.slice none 0 0) (.slice ab l.length cb) (.slice none 0 0)
        refine ⟨((((Chg.of_kept Hk0.out).then C13.out).keep HkA.out).keep K4.out).trans c5 (fun i hi e => by omega), (HRA.out.kept K4.out).chg c5 (fun k e => by subst e; exact ⟨hB, by omega, by omega⟩), ?_⟩
        have a1 : us2.length ≤ us.length := K2.out.2.2.2
        have a2 : (u :: us3).length + 1 ≤ us2.length := K3.out.2.2.2
        exact Nat.le_trans (Nat.le_of_succ_le a2) a1
end Go.Proofs.YtoafcpbpnkfhoaaGreatDoor.Prs
