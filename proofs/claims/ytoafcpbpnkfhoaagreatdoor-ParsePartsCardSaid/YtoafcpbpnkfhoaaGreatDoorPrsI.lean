/-
  Contracts of the functions that read conditions (one, both, either, cond), each out of those that it calls.
-/
import Derived.Test.YtoafcpbpnkfhoaaGreatDoorPrsH
namespace Go.Proofs.YtoafcpbpnkfhoaaGreatDoor.Prs
open Go.RowKit
open Lex (Tok Laid)
attribute [local go_sem] tok0 tok1 tok2

structure CnIn (B G : Nat) (w : World) (r q o : Nat) (cur : Array Value) (t : TypeId) (v : Value) (us : List Tok) (d : Nat) (dp : Option Nat) (l : List Cn) : Prop where
  rd : Rd B G w r us d dp
  box : w.heap[q]? = some (.cells (cur.setIfInBounds o v) t (0, 0))
  lo : o < cur.size
  ty : t ≠ 142 ∧ t ≠ 152 ∧ t ≠ 57 ∧ t ≠ 62
  own : ∃ xs, w.ownsRow B 142 7 v l.length xs ∧ CnCells w B l xs
  sz : l.length + us.length ≤ 8193
  above : B ≤ q
section
variable {B G : Nat} {w w' : World} {r q o : Nat} {cur : Array Value} {t : TypeId} {v : Value} {us us' : List Tok} {d d' : Nat} {dp dp' : Option Nat} {l : List Cn}
theorem CnIn.cell (h : CnIn B G w r q o cur t v us d dp l) : (cur.setIfInBounds o v)[o]? = some v := by simp [h.lo]
theorem CnIn.nr (h : CnIn B G w r q o cur t v us d dp l) : q ≠ r ∧ q ≠ G := h.rd.apart h.box h.ty.2.2.1 h.ty.2.2.2
theorem CnIn.no (h : CnIn B G w r q o cur t v us d dp l) {g : Nat} (hg : v.ownBlock = some g) : g ≠ r ∧ g ≠ G ∧ g ≠ q ∧ B ≤ g ∧ g < w.heap.size := by
  obtain ⟨xs, hx, _⟩ := h.own
  obtain ⟨c, hc⟩ := own_ty hx hg
  have h1 := h.rd.apart hc (by decide) (by decide)
  exact ⟨h1.1, h1.2, ne_of_ty hc h.box (Ne.symm h.ty.1), hx.lt g hg⟩
theorem CnIn.ex (h : CnIn B G w r q o cur t v us d dp l) {g : Nat} {c : Array Value} (hg : w.heap[g]? = some (.cells c 152 (0, 0))) : g ≠ r ∧ g ≠ q ∧ v.ownBlock ≠ some g := by
  obtain ⟨xs, hx, _⟩ := h.own
  refine ⟨(h.rd.apart hg (by decide) (by decide)).1, ne_of_ty hg h.box (Ne.symm h.ty.2.1), fun e => ?_⟩
  obtain ⟨c', hc⟩ := own_ty hx e
  exact ne_of_ty hg hc (by decide) rfl
theorem CnIn.reader (h : CnIn B G w r q o cur t v us d dp l) (hc : Chg (fun k => k = r) w w') (hr : Rd B G w' r us' d' dp') (hs : us'.length ≤ us.length) : CnIn B G w' r q o cur t v us' d' dp' l := by
  obtain ⟨xs, hx, hxs⟩ := h.own
  exact ⟨hr, hc.heap h.box h.nr.1, h.lo, h.ty, ⟨xs, own_chg hx hc (fun _ hg => (h.no hg).1), hxs.chg hc (fun g c hg => (h.ex hg).1)⟩, by have := h.sz; omega, h.above⟩
theorem CnIn.kept (h : CnIn B G w r q o cur t v us d dp l) (hk : Kept w w') : CnIn B G w' r q o cur t v us d dp l := h.reader (Chg.of_kept hk) (h.rd.kept hk) (Nat.le_refl _)
theorem CnIn.size (h : CnIn B G w r q o cur t v us d dp l) : B ≤ w.heap.size := h.rd.size
theorem CnIn.below (h : CnIn B G w r q o cur t v us d dp l) {v' : Value} (m : Mv r q v w w' v') : Below B w w' :=
  m.chg.below h.size fun k hk => by
    rcases hk with rfl | rfl | hk
    · exact h.rd.above
    · exact h.above
    · exact (h.no hk).2.2.2.1
/-- addCond, over a list of conditions. -/
theorem CnIn.addc (h : CnIn B G w r q o cur t v us d dp l) (c : Cn) (k nu a b p : Int) {x y : Value} (he : k = c.kind ∧ nu = c.rel ∧ a = c.a ∧ b = c.b ∧ p = c.place) (hx : w.ownsRow B 152 7 x c.x.length (exCells c.x)) (hy : w.ownsRow B 152 7 y c.y.length (exCells c.y)) (hs : l.length + 1 + us.length ≤ 8193) :
    Calls Tryz.prog 86 #[.pointer (some ⟨q, o, none⟩), .agg #[.int .i64 k, .int .i64 nu, x, y, .int .i64 a, .int .i64 b, .int .i64 p]] w fun e w' => e = .returned (.int .i64 l.length) ∧ Hid (∃ v', Mv r q v w w' v' ∧ CnIn B G w' r q o cur t v' us d dp (l ++ [c])) := by
  obtain ⟨xs, hxs, hcs⟩ := h.own
  have h1 : x.oneCell' = true := by obtain ⟨a, c, rfl⟩ := own_slice hx; rfl
  have h2 : y.oneCell' = true := by obtain ⟨a, c, rfl⟩ := own_slice hy; rfl
  refine (addCond_any k nu a b p x y w h.box h.cell h.ty.1 hxs h.size (by omega) h1 h2).mono ?_
  rintro e w' ⟨rfl, H⟩
  obtain ⟨hc, v', hp, hown⟩ := H.out
  obtain ⟨rfl, rfl, rfl, rfl, rfl⟩ := he
  refine ⟨rfl, Lib.hid ⟨v', ⟨hc.mono fun _ _ s => .inr s, hp.at_⟩, h.rd.chg hc fun k s => ?_, by simpa using hp.box, h.lo, h.ty, ⟨_, by rw [List.length_append]; exact hown, ?_⟩, by simp; omega, h.above⟩⟩
  · rcases s with rfl | s
    · exact ⟨h.above, h.nr⟩
    · have := h.no s; exact ⟨this.2.2.2.1, this.1, this.2.1⟩
  · have hn : ∀ g c, w.heap[g]? = some (.cells c 152 (0, 0)) → ¬ (g = q ∨ v.ownBlock = some g) := fun g c hg s => by
      have := h.ex hg
      rcases s with s | s
      · exact this.2.1 s
      · exact this.2.2 s
    exact (hcs.chg hc hn).snoc c (own_chg hx hc (fun g hg => by obtain ⟨c, hc⟩ := own_ty hx hg; exact hn g c hc)) (own_chg hy hc (fun g hg => by obtain ⟨c, hc⟩ := own_ty hy hg; exact hn g c hc))
end
def CnOut (B G r q o : Nat) (cur : Array Value) (t : TypeId) (v : Value) (w : World) (us : List Tok) (l : List Cn) (w' : World) (us' : List Tok) (d : Nat) (dp' : Option Nat) (l' : List Cn) : Prop :=
  ∃ v', Mv r q v w w' v' ∧ CnIn B G w' r q o cur t v' us' d dp' l' ∧ l'.length + us'.length ≤ l.length + us.length ∧ us'.length ≤ us.length
def CnPost (B G r q o : Nat) (cur : Array Value) (t : TypeId) (v : Value) (w : World) (us : List Tok) (d : Nat) (l : List Cn) : Res (List Cn) → Ending → World → Prop
  | .out, _, _ => False
  | .bad k, e, w' => Bad B w k e w'
  | .ok us' dp' l', e, w' => e = .returned (.int .i64 (l'.length - 1 : Nat)) ∧ Hid (CnOut B G r q o cur t v w us l w' us' d dp' l')
def OneSaid (f : Nat) : Prop := ∀ {B G r q o d : Nat} {cur : Array Value} {t : TypeId} {v : Value} {us : List Tok} {dp : Option Nat} {l : List Cn} (w : World), CnIn B G w r q o cur t v us d dp l → oneF f us d dp l ≠ .out →
  Calls Tryz.prog 94 #[.pointer (some ⟨r, 0, none⟩), .pointer (some ⟨q, o, none⟩)] w (CnPost B G r q o cur t v w us d l (oneF f us d dp l))
def BothSaid (f : Nat) : Prop := ∀ {B G r q o d : Nat} {cur : Array Value} {t : TypeId} {v : Value} {us : List Tok} {dp : Option Nat} {l : List Cn} (w : World), CnIn B G w r q o cur t v us d dp l → bothF f us d dp l ≠ .out →
  Calls Tryz.prog 85 #[.pointer (some ⟨r, 0, none⟩), .pointer (some ⟨q, o, none⟩)] w (CnPost B G r q o cur t v w us d l (bothF f us d dp l))
def EitherSaid (f : Nat) : Prop := ∀ {B G r q o d : Nat} {cur : Array Value} {t : TypeId} {v : Value} {us : List Tok} {dp : Option Nat} {l : List Cn} (w : World), CnIn B G w r q o cur t v us d dp l → eitherF f us d dp l ≠ .out →
  Calls Tryz.prog 71 #[.pointer (some ⟨r, 0, none⟩), .pointer (some ⟨q, o, none⟩)] w (CnPost B G r q o cur t v w us d l (eitherF f us d dp l))

set_option maxRecDepth 100000 in
set_option maxHeartbeats 4000000 in
theorem one_step {f : Nat} (HE : EitherSaid f) (HO : OneSaid f) : OneSaid (f + 1) := by
  intro B G r q o d cur t v us dp l w h hne
  cases us with
  | nil => exact absurd (by simp [oneF]) hne
  | cons u us =>
    have hle : us.length ≤ (u :: us).length := by simp
    have hsz := h.sz
    simp only [List.length_cons] at hsz
    by_cases hn : u.text = [110, 111, 116]
    case pos =>
      have e : oneF (f + 1) (u :: us) d dp l = (oneF f us (d + 1) (dpF d dp u.place) l).bind fun us2 dp2 l2 => .ok us2 dp2 (l2 ++ [⟨2, 0, [], [], (l2.length - 1 : Nat), -1, u.place⟩]) := by simp [oneF, hn]
      rw [e] at hne ⊢; clear e
      have HI := Lib.hid (is_yes w h.rd hn)
      have HH := Lib.hid h
      have Hn := Lib.hid hn
      clear h hn
      cases hc : oneF f us (d + 1) (dpF d dp u.place) l with
      | out => rw [hc] at hne; exact absurd rfl hne
      | bad k =>
        have Hc := Lib.hid hc
        clear hc hne
        go_enter Tryz.func94, Tryz.ntmps94
        go_upto_region 2 with (go_at_call 45; refine (HI.out).mono ?_; rintro e w1 ⟨rfl, H1⟩)
        have HO1 := Lib.hid (open_yes _ (HH.out.kept H1.out).rd Hn.out)
        go_upto_region 3 with (go_at_call 53; refine (HO1.out).mono ?_; rintro e w2 ⟨rfl, H2⟩)
        have HX := Lib.hid (HO _ ((HH.out.kept H1.out).reader H2.out.1 H2.out.2 hle) (by rw [Hc.out]; simp))
        rw [Hc.out] at HX
        go_wp2_with (go_at_call 94; refine (HX.out).mono ?_; rintro e w3 ⟨rfl, H3⟩)
        exact ⟨rfl, rfl, Lib.hid (Below.trans (HH.out.below ((Mv.kept H1.out).trans (Mv.reader H2.out.1))) H3.out)⟩
      | ok us2 dp2 l2 =>
        have Hc := Lib.hid hc
        clear hc hne
        simp only [Res.bind]
        go_enter Tryz.func94, Tryz.ntmps94
        go_upto_region 2 with (go_at_call 45; refine (HI.out).mono ?_; rintro e w1 ⟨rfl, H1⟩)
        have HO1 := Lib.hid (open_yes _ (HH.out.kept H1.out).rd Hn.out)
        go_upto_region 3 with (go_at_call 53; refine (HO1.out).mono ?_; rintro e w2 ⟨rfl, H2⟩)
        have HX := Lib.hid (HO _ ((HH.out.kept H1.out).reader H2.out.1 H2.out.2 hle) (by rw [Hc.out]; simp))
        rw [Hc.out] at HX
        go_upto_region 4 with (go_at_call 94; refine (HX.out).mono ?_; rintro e w3 ⟨rfl, H3⟩)
        obtain ⟨v3, m3, i3, s3, s3'⟩ := H3.out
        have HZ := Lib.hid (close_any w3 i3.rd)
        have M3 := Lib.hid m3
        have I3 := Lib.hid i3
        clear m3 i3
        go_upto_region 5 with (go_at_call 55; refine (HZ.out).mono ?_; rintro e w4 ⟨rfl, H4⟩)
        have I4 := Lib.hid (I3.out.reader H4.out.1 H4.out.2 (Nat.le_refl _))
        have HA := Lib.hid (I4.out.addc ⟨2, 0, [], [], (l2.length - 1 : Nat), -1, u.place⟩ 2 0 (l2.length - 1 : Nat) (-1) u.place (x := .slice none 0 0) (y := .slice none 0 0) ⟨rfl, rfl, rfl, rfl, rfl⟩ (World.ownsRow_nil _ _ _ _) (World.ownsRow_nil _ _ _ _) (by omega))
        go_wp2_with (go_at_call 86; refine (HA.out).mono ?_; rintro e w5 ⟨rfl, H5⟩)
        go_ret
        obtain ⟨v5, m5, i5⟩ := H5.out
        exact ⟨by simp, Lib.hid ⟨v5, ((((Mv.kept H1.out).trans (Mv.reader H2.out.1)).trans M3.out).trans (Mv.reader H4.out.1)).trans m5, i5, by simp; omega, by simp; omega⟩⟩
    have HI := Lib.hid (is_no w h.rd hn)
    by_cases hb : u.text = [91]
    case pos =>
      have e : oneF (f + 1) (u :: us) d dp l = (eitherF f us (d + 1) (dpF d dp u.place) l).bind fun us2 dp2 l2 => (takeF [93] us2 dp2).bind fun us3 dp3 _ => .ok us3 dp3 l2 := by simp [oneF, hb]
      rw [e] at hne ⊢; clear e
      have HH := Lib.hid h
      have Hn := Lib.hid hb
      clear h hn hb
      cases hc : eitherF f us (d + 1) (dpF d dp u.place) l with
      | out => rw [hc] at hne; exact absurd rfl hne
      | bad k =>
        have Hc := Lib.hid hc
        clear hc hne
        go_enter Tryz.func94, Tryz.ntmps94
        go_upto_region 6 with (go_at_call 45; refine (HI.out).mono ?_; rintro e w0 ⟨rfl, H0⟩)
        have HI2 := Lib.hid (is_yes _ (HH.out.kept H0.out).rd Hn.out)
        go_upto_region 7 with (go_at_call 45; refine (HI2.out).mono ?_; rintro e w1 ⟨rfl, H1'⟩)
        have H1 := Lib.hid (H0.out.trans H1'.out)
        have HO1 := Lib.hid (open_yes _ (HH.out.kept H1.out).rd Hn.out)
        go_upto_region 8 with (go_at_call 53; refine (HO1.out).mono ?_; rintro e w2 ⟨rfl, H2⟩)
        have HX := Lib.hid (HE _ ((HH.out.kept H1.out).reader H2.out.1 H2.out.2 hle) (by rw [Hc.out]; simp))
        rw [Hc.out] at HX
        go_wp2_with (go_at_call 71; refine (HX.out).mono ?_; rintro e w3 ⟨rfl, H3⟩)
        exact ⟨rfl, rfl, Lib.hid (Below.trans (HH.out.below ((Mv.kept H1.out).trans (Mv.reader H2.out.1))) H3.out)⟩
      | ok us2 dp2 l2 =>
        have Hc := Lib.hid hc
        rw [hc] at hne
        simp only [Res.bind] at hne ⊢
        clear hc
        cases us2 with
        | nil => simp [takeF] at hne
        | cons x us3 =>
          by_cases hx : x.text = [93]
          case neg =>
            simp only [takeF, if_neg hx]
            have Hx := Lib.hid hx
            clear hx hne
            go_enter Tryz.func94, Tryz.ntmps94
            go_upto_region 6 with (go_at_call 45; refine (HI.out).mono ?_; rintro e w0 ⟨rfl, H0⟩)
            have HI2 := Lib.hid (is_yes _ (HH.out.kept H0.out).rd Hn.out)
            go_upto_region 7 with (go_at_call 45; refine (HI2.out).mono ?_; rintro e w1 ⟨rfl, H1'⟩)
            have H1 := Lib.hid (H0.out.trans H1'.out)
            have HO1 := Lib.hid (open_yes _ (HH.out.kept H1.out).rd Hn.out)
            go_upto_region 8 with (go_at_call 53; refine (HO1.out).mono ?_; rintro e w2 ⟨rfl, H2⟩)
            have HX := Lib.hid (HE _ ((HH.out.kept H1.out).reader H2.out.1 H2.out.2 hle) (by rw [Hc.out]; simp))
            rw [Hc.out] at HX
            go_upto_region 9 with (go_at_call 71; refine (HX.out).mono ?_; rintro e w3 ⟨rfl, H3⟩)
            obtain ⟨v3, m3, i3, s3, s3'⟩ := H3.out
            have HT := Lib.hid (take_no w3 i3.rd Hx.out)
            have M3 := Lib.hid m3
            clear m3 i3 s3 s3'
            go_wp2_with (go_at_call 23; refine (HT.out).mono ?_; rintro e w4 ⟨rfl, H4⟩)
            exact ⟨rfl, rfl, Lib.hid (Below.trans (HH.out.below (((Mv.kept H1.out).trans (Mv.reader H2.out.1)).trans M3.out)) H4.out)⟩
          case pos =>
            simp only [takeF, if_pos hx]
            have Hx := Lib.hid hx
            clear hx hne
            go_enter Tryz.func94, Tryz.ntmps94
            go_upto_region 6 with (go_at_call 45; refine (HI.out).mono ?_; rintro e w0 ⟨rfl, H0⟩)
            have HI2 := Lib.hid (is_yes _ (HH.out.kept H0.out).rd Hn.out)
            go_upto_region 7 with (go_at_call 45; refine (HI2.out).mono ?_; rintro e w1 ⟨rfl, H1'⟩)
            have H1 := Lib.hid (H0.out.trans H1'.out)
            have HO1 := Lib.hid (open_yes _ (HH.out.kept H1.out).rd Hn.out)
            go_upto_region 8 with (go_at_call 53; refine (HO1.out).mono ?_; rintro e w2 ⟨rfl, H2⟩)
            have HX := Lib.hid (HE _ ((HH.out.kept H1.out).reader H2.out.1 H2.out.2 hle) (by rw [Hc.out]; simp))
            rw [Hc.out] at HX
            go_upto_region 9 with (go_at_call 71; refine (HX.out).mono ?_; rintro e w3 ⟨rfl, H3⟩)
            obtain ⟨v3, m3, i3, s3, s3'⟩ := H3.out
            have HT := Lib.hid (take_yes w3 i3.rd Hx.out)
            have M3 := Lib.hid m3
            have I3 := Lib.hid i3
            have S3 := Lib.hid (And.intro s3 s3')
            clear m3 i3 s3 s3'
            go_upto_region 10 with (go_at_call 23; refine (HT.out).mono ?_; rintro e w4 ⟨rfl, H4⟩)
            have HZ := Lib.hid (close_any w4 H4.out.2)
            go_wp2_with (go_at_call 55; refine (HZ.out).mono ?_; rintro e w5 ⟨rfl, H5⟩)
            go_ret
            have hcc := H4.out.1.then H5.out.1
            obtain ⟨s3, s3'⟩ := S3.out
            simp only [List.length_cons] at s3 s3'
            exact ⟨rfl, Lib.hid ⟨v3, (((Mv.kept H1.out).trans (Mv.reader H2.out.1)).trans M3.out).trans (Mv.reader hcc), I3.out.reader hcc H5.out.2 (by simp), by simp only [List.length_cons]; omega, by simp only [List.length_cons]; omega⟩⟩
    case neg =>
      have e : oneF (f + 1) (u :: us) d dp l = (comparedF f (u :: us) d dp).bind fun us2 dp2 c => .ok us2 dp2 (l ++ [c]) := by simp [oneF, hb, hn]
      rw [e] at hne ⊢; clear e
      have HH := Lib.hid h
      have Hn := Lib.hid hb
      clear h hn hb
      cases hc : comparedF f (u :: us) d dp with
      | out => rw [hc] at hne; exact absurd rfl hne
      | bad k =>
        have Hc := Lib.hid hc
        clear hc hne
        go_enter Tryz.func94, Tryz.ntmps94
        go_upto_region 6 with (go_at_call 45; refine (HI.out).mono ?_; rintro e w0 ⟨rfl, H0⟩)
        have HI2 := Lib.hid (is_no _ (HH.out.kept H0.out).rd Hn.out)
        go_upto_region 12 with (go_at_call 45; refine (HI2.out).mono ?_; rintro e w1 ⟨rfl, H1'⟩)
        have H1 := Lib.hid (H0.out.trans H1'.out)
        have HX := Lib.hid (compared_any (f := f) _ (HH.out.kept H1.out).rd (by rw [Hc.out]; simp))
        rw [Hc.out] at HX
        go_wp2_with (go_at_call 96; refine (HX.out).mono ?_; rintro e w3 ⟨rfl, H3⟩)
        exact ⟨rfl, rfl, Lib.hid (Below.trans (HH.out.below (Mv.kept H1.out)) H3.out)⟩
      | ok us2 dp2 c =>
        have Hc := Lib.hid hc
        clear hc hne
        simp only [Res.bind]
        go_enter Tryz.func94, Tryz.ntmps94
        go_upto_region 6 with (go_at_call 45; refine (HI.out).mono ?_; rintro e w0 ⟨rfl, H0⟩)
        have HI2 := Lib.hid (is_no _ (HH.out.kept H0.out).rd Hn.out)
        go_upto_region 12 with (go_at_call 45; refine (HI2.out).mono ?_; rintro e w1 ⟨rfl, H1'⟩)
        have H1 := Lib.hid (H0.out.trans H1'.out)
        have HX := Lib.hid (compared_any (f := f) _ (HH.out.kept H1.out).rd (by rw [Hc.out]; simp))
        rw [Hc.out] at HX
        go_wp2_with (first | (go_at_call 96; refine (HX.out).mono ?_; rintro e w3 ⟨ax, nx, cx, ay, ny, cy, rfl, H3⟩; have I3 := Lib.hid ((HH.out.kept H1.out).reader H3.out.1 H3.out.2.1 (by have := H3.out.2.2.2.2; omega)); have HA := Lib.hid (I3.out.addc c c.kind c.rel c.a c.b c.place ⟨rfl, rfl, rfl, rfl, rfl⟩ (own_from H3.out.2.2.1 (fun g hg => by have := (H3.out.2.2.1.lt g hg).1; have := (HH.out.kept H1.out).size; omega)) (own_from H3.out.2.2.2.1 (fun g hg => by have := (H3.out.2.2.2.1.lt g hg).1; have := (HH.out.kept H1.out).size; omega)) (by have := H3.out.2.2.2.2; simp only [List.length_cons] at this; omega))) | (go_at_call 86; refine (HA.out).mono ?_; rintro e w5 ⟨rfl, H5⟩))
        go_ret
        obtain ⟨v5, m5, i5⟩ := H5.out
        have hs := H3.out.2.2.2.2
        simp only [List.length_cons] at hs
        exact ⟨by simp, Lib.hid ⟨v5, ((Mv.kept H1.out).trans (Mv.reader H3.out.1)).trans m5, i5, by simp; omega, by simp; omega⟩⟩
end Go.Proofs.YtoafcpbpnkfhoaaGreatDoor.Prs
