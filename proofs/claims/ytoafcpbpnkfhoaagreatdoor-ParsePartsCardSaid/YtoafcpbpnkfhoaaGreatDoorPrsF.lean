/-
  The contract of named (a variable or an array's element), of unary at any token.
-/
import Derived.Test.YtoafcpbpnkfhoaaGreatDoorPrsE
namespace Go.Proofs.YtoafcpbpnkfhoaaGreatDoor.Prs
open Go.RowKit
open Lex (Tok Laid)
attribute [local go_sem] tok0 tok1 tok2

/-- What named leaves: the node in block b, the reader and the list behind what it read. -/
structure NmOut (B G r q o b : Nat) (cur : Array Value) (t : TypeId) (v : Value) (w : World) (us : List Tok) (l : List Ex) (w' : World) (us' : List Tok) (d : Nat) (dp' : Option Nat) (l' : List Ex) (N : Array Value) (v' : Value) : Prop where
  chg : Chg (fun k => (k = r ∨ k = q ∨ v.ownBlock = some k) ∨ k = b) w w'
  at_ : v'.ownBlock = v.ownBlock ∨ ∃ g, v'.ownBlock = some g ∧ w.heap.size ≤ g
  st : ExIn B G w' r q o cur t v' us' d dp' l'
  box : w'.heap[b]? = some (.cells N 152 (0, 0))
  sz : l'.length + us'.length ≤ l.length + us.length ∧ us'.length ≤ us.length
theorem Mv.or {r q b : Nat} {v v' : Value} {w w1 w2 : World} (h : Mv r q v w w1 v') (hc : Chg (fun k => k = b) w1 w2) : Chg (fun k => (k = r ∨ k = q ∨ v.ownBlock = some k) ∨ k = b) w w2 :=
  (h.chg.mono fun _ _ s => .inl s).trans hc fun _ _ e => .inr e
section
variable {B G r q o b d : Nat} {cur : Array Value} {t : TypeId} {v : Value} {u : Tok} {us : List Tok} {dp : Option Nat} {l : List Ex} {p : Int}

set_option maxRecDepth 100000 in
set_option maxHeartbeats 4000000 in
theorem named_var (w : World) (h : ExIn B G w r q o cur t v (u :: us) d dp l) (hf : Far B G r q b v) (hb : w.heap[b]? = some (.cells (nodeV 0 0 0 ⟨#[]⟩ (-1) (-1) p) 152 (0, 0))) (x : Tok) (xs : List Tok) (hx : us = x :: xs) (hne : x.text ≠ [91]) :
    Calls Tryz.prog 101 #[.pointer (some ⟨r, 0, none⟩), .pointer (some ⟨q, o, none⟩), .pointer (some ⟨b, 0, none⟩)] w fun e w' => e = .returned (.tuple #[]) ∧ Hid (NmOut B G r q o b cur t v w us l w' us d dp l (nodeV 2 0 0 ⟨u.text.toArray⟩ (-1) (-1) p) v) := by
  have HN := Lib.hid (next_any w h.rd)
  have HH := Lib.hid h
  have HF := Lib.hid hf
  have Hb := Lib.hid hb
  have Hx := Lib.hid hx
  have Hne := Lib.hid hne
  have hle : us.length ≤ (u :: us).length := by simp
  clear h hf hb hx hne
  unfold nodeV at Hb
  go_enter Tryz.func101, Tryz.ntmps101
  go_upto_region 1 with (go_at_call 46; refine (HN.out).mono ?_; rintro e w1 ⟨rfl, H1⟩; have hb2 := H1.out.1.heap Hb.out HF.out.r; have z0 := box_cell hb2 0 _ rfl; have z3 := box_cell hb2 3 _ rfl; have y0 := box_froz hb2; have Hb2 := Lib.hid hb2; clear hb2)
  have I2 := Lib.hid (((HH.out.reader H1.out.1 H1.out.2 hle).setb HF.out 0 (.int .i64 2)).setb HF.out 3 (.string ⟨u.text.toArray⟩))
  have HI : Hid (Calls Tryz.prog 45 #[.pointer (some ⟨r, 0, none⟩), .string ⟨#[91]⟩] ((w1.setCell ⟨b, 0, none⟩ (.int .i64 2)).setCell ⟨b, 3, none⟩ (.string ⟨u.text.toArray⟩)) fun e w' => e = .returned (.bool false) ∧ Hid (Kept ((w1.setCell ⟨b, 0, none⟩ (.int .i64 2)).setCell ⟨b, 3, none⟩ (.string ⟨u.text.toArray⟩)) w')) := Lib.hid (by
    have := I2.out.rd; rw [Hx.out] at this; exact is_no _ this Hne.out)
  go_wp2_with (go_at_call 45; refine (HI.out).mono ?_; rintro e w2 ⟨rfl, H2⟩)
  go_end0
  have hc := (chg_set w1 b 0 (.int .i64 2)).then (chg_set _ b 3 (.string ⟨u.text.toArray⟩))
  refine ⟨rfl, Lib.hid ⟨((Mv.reader H1.out.1).or hc).keep H2.out, .inl rfl, I2.out.kept H2.out, ?_, by omega, Nat.le_refl _⟩⟩
  rw [Below.block H2.out _ (by simp [World.setCell]; exact box_lt Hb2.out), heap_setCell_same _ _ _ _ _ _ (heap_setCell_same _ _ _ _ _ _ Hb2.out)]
  simp [nodeV]

set_option maxRecDepth 100000 in
set_option maxHeartbeats 4000000 in
theorem named_bad {f k : Nat} (HX : IndexSaid f) (w : World) (h : ExIn B G w r q o cur t v (u :: us) d dp l) (hf : Far B G r q b v) (hb : w.heap[b]? = some (.cells (nodeV 0 0 0 ⟨#[]⟩ (-1) (-1) p) 152 (0, 0))) (x : Tok) (xs : List Tok) (hx : us = x :: xs) (hxt : x.text = [91]) (hc : bracketF f [91] [93] us d dp l = .bad k) :
    Calls Tryz.prog 101 #[.pointer (some ⟨r, 0, none⟩), .pointer (some ⟨q, o, none⟩), .pointer (some ⟨b, 0, none⟩)] w (Bad B w k) := by
  have HN := Lib.hid (next_any w h.rd)
  have HH := Lib.hid h
  have HF := Lib.hid hf
  have Hb := Lib.hid hb
  have Hx := Lib.hid hx
  have Hxt := Lib.hid hxt
  have Hc := Lib.hid hc
  have hle : us.length ≤ (u :: us).length := by simp
  clear h hf hb hx hxt hc
  unfold nodeV at Hb
  go_enter Tryz.func101, Tryz.ntmps101
  go_upto_region 1 with (go_at_call 46; refine (HN.out).mono ?_; rintro e w1 ⟨rfl, H1⟩; have hb2 := H1.out.1.heap Hb.out HF.out.r; have z0 := box_cell hb2 0 _ rfl; have z3 := box_cell hb2 3 _ rfl; have y0 := box_froz hb2; have Hb2 := Lib.hid hb2; clear hb2)
  have I2 := Lib.hid (((HH.out.reader H1.out.1 H1.out.2 hle).setb HF.out 0 (.int .i64 2)).setb HF.out 3 (.string ⟨u.text.toArray⟩))
  have HI : Hid (Calls Tryz.prog 45 #[.pointer (some ⟨r, 0, none⟩), .string ⟨#[91]⟩] ((w1.setCell ⟨b, 0, none⟩ (.int .i64 2)).setCell ⟨b, 3, none⟩ (.string ⟨u.text.toArray⟩)) fun e w' => e = .returned (.bool true) ∧ Hid (Kept ((w1.setCell ⟨b, 0, none⟩ (.int .i64 2)).setCell ⟨b, 3, none⟩ (.string ⟨u.text.toArray⟩)) w')) := Lib.hid (by
    have := I2.out.rd; rw [Hx.out] at this; exact is_yes _ this Hxt.out)
  go_upto_region 2 with (go_at_call 45; refine (HI.out).mono ?_; rintro e w2 ⟨rfl, H2⟩)
  have HY := Lib.hid (HX w2 (I2.out.kept H2.out) (by rw [Hc.out]; simp))
  rw [Hc.out] at HY
  go_wp2_with (go_at_call 89; refine (HY.out).mono ?_; rintro e w3 ⟨rfl, H3⟩)
  have hc := (chg_set w1 b 0 (.int .i64 2)).then (chg_set _ b 3 (.string ⟨u.text.toArray⟩))
  refine ⟨rfl, rfl, Lib.hid (Below.trans ((((Mv.reader (q := q) (v := v) H1.out.1).or hc).keep H2.out).below HH.out.size fun k s => ?_) H3.out)⟩
  rcases s with s | rfl
  · rcases s with rfl | rfl | s
    · exact HH.out.rd.above
    · exact HH.out.above
    · exact (HH.out.no s).2.2.2.1
  · exact HF.out.le

set_option maxRecDepth 100000 in
set_option maxHeartbeats 4000000 in
theorem named_elem {f : Nat} (HX : IndexSaid f) (w : World) (h : ExIn B G w r q o cur t v (u :: us) d dp l) (hf : Far B G r q b v) (hb : w.heap[b]? = some (.cells (nodeV 0 0 0 ⟨#[]⟩ (-1) (-1) p) 152 (0, 0))) (x : Tok) (xs : List Tok) (hx : us = x :: xs) (hxt : x.text = [91]) {us2 : List Tok} {dp2 : Option Nat} {l2 : List Ex} (hc : bracketF f [91] [93] us d dp l = .ok us2 dp2 l2) :
    Calls Tryz.prog 101 #[.pointer (some ⟨r, 0, none⟩), .pointer (some ⟨q, o, none⟩), .pointer (some ⟨b, 0, none⟩)] w fun e w' => e = .returned (.tuple #[]) ∧ Hid (∃ v', NmOut B G r q o b cur t v w us l w' us2 d dp2 l2 (nodeV 3 0 0 ⟨u.text.toArray⟩ (l2.length - 1 : Nat) (-1) p) v') := by
  have HN := Lib.hid (next_any w h.rd)
  have HH := Lib.hid h
  have HF := Lib.hid hf
  have Hb := Lib.hid hb
  have Hx := Lib.hid hx
  have Hxt := Lib.hid hxt
  have Hc := Lib.hid hc
  have hle : us.length ≤ (u :: us).length := by simp
  clear h hf hb hx hxt hc
  unfold nodeV at Hb
  go_enter Tryz.func101, Tryz.ntmps101
  go_upto_region 1 with (go_at_call 46; refine (HN.out).mono ?_; rintro e w1 ⟨rfl, H1⟩; have hb2 := H1.out.1.heap Hb.out HF.out.r; have z0 := box_cell hb2 0 _ rfl; have z3 := box_cell hb2 3 _ rfl; have y0 := box_froz hb2; have Hb2 := Lib.hid hb2; clear hb2)
  have I2 := Lib.hid (((HH.out.reader H1.out.1 H1.out.2 hle).setb HF.out 0 (.int .i64 2)).setb HF.out 3 (.string ⟨u.text.toArray⟩))
  have HI : Hid (Calls Tryz.prog 45 #[.pointer (some ⟨r, 0, none⟩), .string ⟨#[91]⟩] ((w1.setCell ⟨b, 0, none⟩ (.int .i64 2)).setCell ⟨b, 3, none⟩ (.string ⟨u.text.toArray⟩)) fun e w' => e = .returned (.bool true) ∧ Hid (Kept ((w1.setCell ⟨b, 0, none⟩ (.int .i64 2)).setCell ⟨b, 3, none⟩ (.string ⟨u.text.toArray⟩)) w')) := Lib.hid (by
    have := I2.out.rd; rw [Hx.out] at this; exact is_yes _ this Hxt.out)
  go_upto_region 2 with (go_at_call 45; refine (HI.out).mono ?_; rintro e w2 ⟨rfl, H2⟩)
  have hbx : Hid (w2.heap[b]? = some (.cells (nodeV 2 0 0 ⟨u.text.toArray⟩ (-1) (-1) p) 152 (0, 0))) := Lib.hid (by
    rw [Below.block H2.out _ (by simp [World.setCell]; exact box_lt Hb2.out), heap_setCell_same _ _ _ _ _ _ (heap_setCell_same _ _ _ _ _ _ Hb2.out)]
    simp [nodeV])
  have HY := Lib.hid (HX w2 (I2.out.kept H2.out) (by rw [Hc.out]; simp))
  rw [Hc.out] at HY
  go_wp2_with (go_at_call 89; refine (HY.out).mono ?_; rintro e w3 ⟨rfl, H3⟩; obtain ⟨v3, m3, i3, t3, t3'⟩ := H3.out; have M3 := Lib.hid m3; have I4 := Lib.hid i3; have T3 := Lib.hid (And.intro t3 t3'); clear m3 i3 t3 t3'; have hb3 := HF.out.box M3.out hbx.out; unfold nodeV at hb3; have x0 := box_cell hb3 0 _ rfl; have x4 := box_cell hb3 4 _ rfl; have xf := box_froz hb3; have Hb3 := Lib.hid hb3; clear hb3)
  go_end0
  have hc := (chg_set w1 b 0 (.int .i64 2)).then (chg_set _ b 3 (.string ⟨u.text.toArray⟩))
  have hc' := (chg_set w3 b 0 (.int .i64 3)).then (chg_set _ b 4 (.int .i64 (l2.length - 1 : Nat)))
  have HFn := HF.out.mv M3.out (box_lt hbx.out)
  have hs : w.heap.size ≤ w2.heap.size := by
    have a := H1.out.1.size; have c := hc.size; have d := Below.size H2.out; omega
  refine ⟨rfl, Lib.hid ⟨v3, ((((Mv.reader (q := q) (v := v) H1.out.1).or hc).keep H2.out).trans M3.out.chg (fun _ _ s => .inl s)).trans hc' (fun _ _ s => .inr s), ?_, (I4.out.setb HFn 0 _).setb HFn 4 _, ?_, T3.out⟩⟩
  · rcases M3.out.at_ with e | ⟨g, e, hg⟩
    · exact .inl e
    · exact .inr ⟨g, e, by omega⟩
  · rw [heap_setCell_same _ _ _ _ _ _ (heap_setCell_same _ _ _ _ _ _ Hb3.out)]
    simp [nodeV]

theorem nodeV_cells (e : Ex) : (nodeV e.kind e.num e.ty ⟨e.name.toArray⟩ e.a e.b e.place).toList = exCell e := rfl

set_option maxRecDepth 100000 in
set_option maxHeartbeats 4000000 in
theorem unary_name {f : Nat} (HX : IndexSaid f) (w : World) (h : ExIn B G w r q o cur t v (u :: us) d dp l) (hk : u.kind = 1) (hne : unaryF (f + 2) (u :: us) d dp l ≠ .out) :
    Calls Tryz.prog 97 #[.pointer (some ⟨r, 0, none⟩), .pointer (some ⟨q, o, none⟩)] w (ExPost B G r q o cur t v w (u :: us) d l (unaryF (f + 2) (u :: us) d dp l)) := by
  have e : unaryF (f + 2) (u :: us) d dp l = namedF (f + 1) u us d dp l := by simp [unaryF, hk]
  rw [e] at hne ⊢; clear e
  have HP := Lib.hid (peek_any w h.rd)
  have HH := Lib.hid h
  have hsz := h.sz
  simp only [List.length_cons] at hsz
  rw [hk] at HP
  clear h hk
  cases hus : us with
  | nil => rw [hus] at hne; exact absurd (by simp [namedF]) hne
  | cons x xs =>
    rw [← hus]
    have Hus := Lib.hid hus
    by_cases hx : x.text = [91]
    case neg =>
      have e : namedF (f + 1) u us d dp l = .ok us dp (l ++ [⟨2, 0, 0, u.text, -1, -1, u.place⟩]) := by rw [hus]; simp [namedF, hx]
      rw [e]; clear e hne hus
      have Hx := Lib.hid hx
      clear hx
      go_enter Tryz.func97, Tryz.ntmps97
      go_upto_region 8 with (go_at_call 14; refine (HP.out).mono ?_; rintro e w1 ⟨rfl, H1⟩)
      obtain ⟨I, hb, F, K, s1, s2⟩ := unary_pre HH.out H1.out #[.int .i64 1, .string ⟨u.text.toArray⟩, .int .i64 u.place] (nodeV 0 0 0 ⟨#[]⟩ (-1) (-1) u.place)
      have HN := Lib.hid (named_var _ I F hb x xs Hus.out Hx.out)
      have HK := Lib.hid K
      have HF := Lib.hid F
      clear I F K hb
      unfold nodeV at HK HN
      go_upto_region 22 with (go_at_call 101; refine (HN.out).mono ?_; rintro e w2 ⟨rfl, H2⟩; have hb2 := H2.out.box; have z0 := box_cell hb2 0 _ rfl; have z1 := box_cell hb2 1 _ rfl; have z2 := box_cell hb2 2 _ rfl; have z3 := box_cell hb2 3 _ rfl; have z4 := box_cell hb2 4 _ rfl; have z5 := box_cell hb2 5 _ rfl; have z6 := box_cell hb2 6 _ rfl; clear hb2)
      have I5 := Lib.hid H2.out.st
      have HA := Lib.hid (addExpr_any ⟨2, 0, 0, u.text, -1, -1, u.place⟩ 2 0 0 (-1) (-1) u.place ⟨u.text.toArray⟩ _ I5.out.box I5.out.cell I5.out.ty.1 I5.out.own I5.out.size (by omega) rfl)
      go_wp2_with (go_at_call 99; refine (HA.out).mono ?_; rintro e w5 ⟨rfl, H5⟩)
      go_ret
      obtain ⟨v5, m5, i5⟩ := I5.out.add (by omega) H5.out
      have M2 : Mv r q v w w2 v := ⟨(Chg.of_kept HK.out).trans H2.out.chg (fun i hi s => s.elim id fun e => absurd hi (by omega)), .inl rfl⟩
      exact ⟨by simp, Lib.hid ⟨v5, M2.trans m5, i5, by simp; omega, by simp⟩⟩
    case pos =>
      have e : namedF (f + 1) u us d dp l = (bracketF f [91] [93] us d dp l).bind fun us2 dp2 l2 => .ok us2 dp2 (l2 ++ [⟨3, 0, 0, u.text, (l2.length - 1 : Nat), -1, u.place⟩]) := by rw [hus]; simp [namedF, hx]
      rw [e] at hne ⊢; clear e hus
      have Hx := Lib.hid hx
      clear hx
      cases hc : bracketF f [91] [93] us d dp l with
      | out => rw [hc] at hne; exact absurd rfl hne
      | bad k =>
        clear hne
        have Hc := Lib.hid hc
        clear hc
        go_enter Tryz.func97, Tryz.ntmps97
        go_upto_region 8 with (go_at_call 14; refine (HP.out).mono ?_; rintro e w1 ⟨rfl, H1⟩)
        obtain ⟨I, hb, F, K, s1, s2⟩ := unary_pre HH.out H1.out #[.int .i64 1, .string ⟨u.text.toArray⟩, .int .i64 u.place] (nodeV 0 0 0 ⟨#[]⟩ (-1) (-1) u.place)
        have HN := Lib.hid (named_bad HX _ I F hb x xs Hus.out Hx.out Hc.out)
        have HK := Lib.hid K
        clear I F K hb
        unfold nodeV at HK HN
        go_wp2_with (go_at_call 101; refine (HN.out).mono ?_; rintro e w2 ⟨rfl, H2⟩)
        exact ⟨rfl, rfl, Lib.hid (Below.trans (Mv.below HH.out (Mv.kept HK.out)) H2.out)⟩
      | ok us2 dp2 l2 =>
        clear hne
        have Hc := Lib.hid hc
        clear hc
        simp only [Res.bind]
        go_enter Tryz.func97, Tryz.ntmps97
        go_upto_region 8 with (go_at_call 14; refine (HP.out).mono ?_; rintro e w1 ⟨rfl, H1⟩)
        obtain ⟨I, hb, F, K, s1, s2⟩ := unary_pre HH.out H1.out #[.int .i64 1, .string ⟨u.text.toArray⟩, .int .i64 u.place] (nodeV 0 0 0 ⟨#[]⟩ (-1) (-1) u.place)
        have HN := Lib.hid (named_elem HX _ I F hb x xs Hus.out Hx.out Hc.out)
        have HK := Lib.hid K
        have HF := Lib.hid F
        clear I F K hb
        unfold nodeV at HK HN
        go_upto_region 22 with (go_at_call 101; refine (HN.out).mono ?_; rintro e w2 ⟨rfl, H2⟩; obtain ⟨v2, n2⟩ := H2.out; have hb2 := n2.box; have z0 := box_cell hb2 0 _ rfl; have z1 := box_cell hb2 1 _ rfl; have z2 := box_cell hb2 2 _ rfl; have z3 := box_cell hb2 3 _ rfl; have z4 := box_cell hb2 4 _ rfl; have z5 := box_cell hb2 5 _ rfl; have z6 := box_cell hb2 6 _ rfl; have N2 := Lib.hid n2; clear hb2 n2)
        have I5 := Lib.hid N2.out.st
        have HA := Lib.hid (addExpr_any ⟨3, 0, 0, u.text, (l2.length - 1 : Nat), -1, u.place⟩ 3 0 0 (l2.length - 1 : Nat) (-1) u.place ⟨u.text.toArray⟩ _ I5.out.box I5.out.cell I5.out.ty.1 I5.out.own I5.out.size (by have := I5.out.sz; omega) rfl)
        go_wp2_with (go_at_call 99; refine (HA.out).mono ?_; rintro e w5 ⟨rfl, H5⟩)
        go_ret
        obtain ⟨t3, t3'⟩ := N2.out.sz
        obtain ⟨v5, m5, i5⟩ := I5.out.add (by omega) H5.out
        have hsk := Below.size HK.out
        have M2 : Mv r q v w w2 v2 := ⟨(Chg.of_kept HK.out).trans N2.out.chg (fun i hi s => s.elim id fun e => absurd hi (by omega)), by
          rcases N2.out.at_ with e | ⟨g, e, hg⟩
          · exact .inl e
          · exact .inr ⟨g, e, by omega⟩⟩
        exact ⟨by simp, Lib.hid ⟨v5, M2.trans m5, i5, by simp; omega, by simp; omega⟩⟩
end
/-- unary, out of what it calls. -/
theorem unary_step {f : Nat} (HB : BracketSaid (f + 1)) (HS : SignedSaid (f + 1)) (HX : IndexSaid f) : UnarySaid (f + 2) := by
  intro B G r q o d cur t v us dp l w h hne
  cases us with
  | nil => exact absurd (by simp [unaryF]) hne
  | cons u us =>
    by_cases h2 : u.kind = 2
    · exact unary_num w h h2
    by_cases h1 : u.kind = 1
    · exact unary_name HX w h h1 hne
    by_cases hT : readT u.text = 0
    · by_cases h3 : u.text = [111, 108, 100]
      · exact unary_old HB w h h2 h1 h3 hne
      by_cases h4 : u.text = [114, 101, 115, 117, 108, 116]
      · exact unary_result w h h2 h1 h4
      by_cases h5 : u.text = [45]
      · exact unary_neg HS w h h2 h1 h5 hne
      by_cases h6 : u.text = [126]
      · exact unary_com HS w h h2 h1 h6 hne
      exact unary_other HB w h h2 h1 hT h3 h4 h5 h6 hne
    · exact unary_cast HB w h h2 h1 hT hne
end Go.Proofs.YtoafcpbpnkfhoaaGreatDoor.Prs
