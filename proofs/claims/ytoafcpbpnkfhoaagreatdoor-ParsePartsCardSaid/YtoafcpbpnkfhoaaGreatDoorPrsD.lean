/-
  Contracts of the functions that read expressions (inBrackets, index, signed, named), each out of those that it calls.
-/
import Derived.Test.YtoafcpbpnkfhoaaGreatDoorPrsC
namespace Go.Proofs.YtoafcpbpnkfhoaaGreatDoor.Prs
open Go.RowKit
open Lex (Tok Laid)
attribute [local go_sem] tok0 tok1 tok2

/-- What stands ahead of a call that reads into a list of nodes: the reader; the list's pointer ⟨q, o⟩, its block's cells (cur, with the list v at o); the list is the call's own. -/
structure ExIn (B G : Nat) (w : World) (r q o : Nat) (cur : Array Value) (t : TypeId) (v : Value) (us : List Tok) (d : Nat) (dp : Option Nat) (l : List Ex) : Prop where
  rd : Rd B G w r us d dp
  box : w.heap[q]? = some (.cells (cur.setIfInBounds o v) t (0, 0))
  lo : o < cur.size
  ty : t ≠ 152 ∧ t ≠ 57 ∧ t ≠ 62
  own : w.ownsRow B 152 7 v l.length (exCells l)
  sz : l.length + us.length ≤ 8193
  above : B ≤ q
/-- What has changed behind such a call. -/
structure Mv (r q : Nat) (v : Value) (w w' : World) (v' : Value) : Prop where
  chg : Chg (fun k => k = r ∨ k = q ∨ v.ownBlock = some k) w w'
  at_ : v'.ownBlock = v.ownBlock ∨ ∃ g, v'.ownBlock = some g ∧ w.heap.size ≤ g
theorem Mv.trans {r q : Nat} {v v1 v2 : Value} {w w1 w2 : World} (h : Mv r q v w w1 v1) (k : Mv r q v1 w1 w2 v2) : Mv r q v w w2 v2 := by
  refine ⟨h.chg.trans k.chg fun i hi hs => ?_, ?_⟩
  · rcases hs with hs | hs | hs
    · exact .inl hs
    · exact .inr (.inl hs)
    · rcases h.at_ with e | ⟨g, e, hg⟩
      · exact .inr (.inr (e ▸ hs))
      · rw [e] at hs; injection hs with hs; omega
  · rcases k.at_ with e | ⟨g, e, hg⟩
    · rcases h.at_ with e' | h'
      · exact .inl (e.trans e')
      · exact .inr (e ▸ h')
    · exact .inr ⟨g, e, Nat.le_trans h.chg.size hg⟩
theorem Mv.reader {r q : Nat} {v : Value} {w w' : World} (h : Chg (fun k => k = r) w w') : Mv r q v w w' v := ⟨h.mono fun _ _ e => .inl e, .inl rfl⟩
theorem Mv.kept {r q : Nat} {v : Value} {w w' : World} (h : Kept w w') : Mv r q v w w' v := ⟨Chg.of_kept h, .inl rfl⟩
section
variable {B G : Nat} {w w' : World} {r q o : Nat} {cur : Array Value} {t : TypeId} {v : Value} {us us' : List Tok} {d d' : Nat} {dp dp' : Option Nat} {l : List Ex}
theorem ExIn.cell (h : ExIn B G w r q o cur t v us d dp l) : (cur.setIfInBounds o v)[o]? = some v := by simp [h.lo]
theorem ExIn.nr (h : ExIn B G w r q o cur t v us d dp l) : q ≠ r ∧ q ≠ G := h.rd.apart h.box h.ty.2.1 h.ty.2.2
theorem ExIn.no (h : ExIn B G w r q o cur t v us d dp l) {g : Nat} (hg : v.ownBlock = some g) : g ≠ r ∧ g ≠ G ∧ g ≠ q ∧ B ≤ g ∧ g < w.heap.size := by
  obtain ⟨c, hc⟩ := own_ty h.own hg
  have h1 := h.rd.apart hc (by decide) (by decide)
  exact ⟨h1.1, h1.2, ne_of_ty hc h.box (Ne.symm h.ty.1), h.own.lt g hg⟩
/-- The reader goes on by itself. -/
theorem ExIn.reader (h : ExIn B G w r q o cur t v us d dp l) (hc : Chg (fun k => k = r) w w') (hr : Rd B G w' r us' d' dp') (hs : us'.length ≤ us.length) : ExIn B G w' r q o cur t v us' d' dp' l :=
  ⟨hr, hc.heap h.box h.nr.1, h.lo, h.ty, own_chg h.own hc (fun _ hg => (h.no hg).1), by have := h.sz; omega, h.above⟩
theorem ExIn.kept (h : ExIn B G w r q o cur t v us d dp l) (hk : Kept w w') : ExIn B G w' r q o cur t v us d dp l :=
  h.reader (Chg.of_kept hk) (h.rd.kept hk) (Nat.le_refl _)
theorem ExIn.size (h : ExIn B G w r q o cur t v us d dp l) : B ≤ w.heap.size := h.rd.size
theorem Mv.below (h : ExIn B G w r q o cur t v us d dp l) {v' : Value} (m : Mv r q v w w' v') : Below B w w' :=
  m.chg.below h.size fun k hk => by
    rcases hk with rfl | rfl | hk
    · exact h.rd.above
    · exact h.above
    · exact (h.no hk).2.2.2.1
end
def ExOut (B G r q o : Nat) (cur : Array Value) (t : TypeId) (v : Value) (w : World) (us : List Tok) (l : List Ex) (w' : World) (us' : List Tok) (d : Nat) (dp' : Option Nat) (l' : List Ex) : Prop :=
  ∃ v', Mv r q v w w' v' ∧ ExIn B G w' r q o cur t v' us' d dp' l' ∧ l'.length + us'.length ≤ l.length + us.length ∧ us'.length ≤ us.length
def ExPost (B G r q o : Nat) (cur : Array Value) (t : TypeId) (v : Value) (w : World) (us : List Tok) (d : Nat) (l : List Ex) : Res (List Ex) → Ending → World → Prop
  | .out, _, _ => False
  | .bad k, e, w' => Bad B w k e w'
  | .ok us' dp' l', e, w' => e = .returned (.int .i64 (l'.length - 1 : Nat)) ∧ Hid (ExOut B G r q o cur t v w us l w' us' d dp' l')

def ChainSaid (f : Nat) : Prop := ∀ {B G r q o d lvl : Nat} {cur : Array Value} {t : TypeId} {v : Value} {us : List Tok} {dp : Option Nat} {l : List Ex} (w : World), lvl ≤ 4 → ExIn B G w r q o cur t v us d dp l → chainF f lvl us d dp l ≠ .out →
  Calls Tryz.prog 95 #[.pointer (some ⟨r, 0, none⟩), .pointer (some ⟨q, o, none⟩), .int .i64 lvl] w (ExPost B G r q o cur t v w us d l (chainF f lvl us d dp l))
def UnarySaid (f : Nat) : Prop := ∀ {B G r q o d : Nat} {cur : Array Value} {t : TypeId} {v : Value} {us : List Tok} {dp : Option Nat} {l : List Ex} (w : World), ExIn B G w r q o cur t v us d dp l → unaryF f us d dp l ≠ .out →
  Calls Tryz.prog 97 #[.pointer (some ⟨r, 0, none⟩), .pointer (some ⟨q, o, none⟩)] w (ExPost B G r q o cur t v w us d l (unaryF f us d dp l))
def BracketSaid (f : Nat) : Prop := ∀ {B G r q o d : Nat} {cur : Array Value} {t : TypeId} {v : Value} {us : List Tok} {dp : Option Nat} {l : List Ex} (w : World), ExIn B G w r q o cur t v us d dp l → bracketF f [40] [41] us d dp l ≠ .out →
  Calls Tryz.prog 102 #[.pointer (some ⟨r, 0, none⟩), .pointer (some ⟨q, o, none⟩)] w (ExPost B G r q o cur t v w us d l (bracketF f [40] [41] us d dp l))
def IndexSaid (f : Nat) : Prop := ∀ {B G r q o d : Nat} {cur : Array Value} {t : TypeId} {v : Value} {us : List Tok} {dp : Option Nat} {l : List Ex} (w : World), ExIn B G w r q o cur t v us d dp l → bracketF f [91] [93] us d dp l ≠ .out →
  Calls Tryz.prog 89 #[.pointer (some ⟨r, 0, none⟩), .pointer (some ⟨q, o, none⟩)] w (ExPost B G r q o cur t v w us d l (bracketF f [91] [93] us d dp l))
def SignedSaid (f : Nat) : Prop := ∀ {B G r q o d : Nat} {cur : Array Value} {t : TypeId} {v : Value} {u : Tok} {us : List Tok} {dp : Option Nat} {l : List Ex} (w : World), ExIn B G w r q o cur t v (u :: us) d dp l → signedF f u us d dp l ≠ .out →
  Calls Tryz.prog 103 #[.pointer (some ⟨r, 0, none⟩), .pointer (some ⟨q, o, none⟩)] w (ExPost B G r q o cur t v w us d l (signedF f u us d dp l))

set_option maxRecDepth 100000 in
set_option maxHeartbeats 2000000 in
theorem bracket_step {f : Nat} (HC : ChainSaid f) : BracketSaid (f + 1) := by
  intro B G r q o d cur t v us dp l w h hne
  cases us with
  | nil => exact absurd (by simp [bracketF, openF, Res.bind]) hne
  | cons u us =>
    by_cases hu : u.text = [40]
    case neg =>
      have e : bracketF (f + 1) [40] [41] (u :: us) d dp l = .bad u.place := by simp [bracketF, openF, Res.bind, hu]
      rw [e]; clear e hne
      have HI := Lib.hid (open_no w h.rd hu)
      clear h hu
      go_enter Tryz.func102, Tryz.ntmps102
      go_wp2_with (go_at_call 53; refine (HI.out).mono ?_; rintro e w1 ⟨rfl, Hk⟩)
      exact ⟨rfl, rfl, Hk⟩
    have HO := Lib.hid (open_yes w h.rd hu)
    have e : bracketF (f + 1) [40] [41] (u :: us) d dp l = (chainF f 0 us (d + 1) (dpF d dp u.place) l).bind fun us2 dp2 l2 => (takeF [41] us2 dp2).bind fun us3 dp3 _ => .ok us3 dp3 l2 := by simp [bracketF, openF, Res.bind, hu]
    rw [e] at hne ⊢; clear e
    have HH := Lib.hid h
    have hle : us.length ≤ (u :: us).length := by simp
    clear hu h
    cases hc : chainF f 0 us (d + 1) (dpF d dp u.place) l with
    | out => rw [hc] at hne; exact absurd rfl hne
    | bad k =>
      clear hne
      have Hc := Lib.hid hc
      clear hc
      go_enter Tryz.func102, Tryz.ntmps102
      go_upto_region 2 with (go_at_call 53; refine (HO.out).mono ?_; rintro e w1 ⟨rfl, Ho⟩)
      have h1 := HH.out.reader Ho.out.1 Ho.out.2 hle
      have HX := Lib.hid (HC (lvl := 0) w1 (by omega) h1 (by rw [Hc.out]; simp))
      rw [Hc.out] at HX
      clear h1
      go_wp2_with (go_at_call 95; refine (HX.out).mono ?_; rintro e w2 ⟨rfl, Hb⟩)
      exact ⟨rfl, rfl, Lib.hid (Below.trans (Mv.below HH.out (Mv.reader Ho.out.1)) Hb.out)⟩
    | ok us2 dp2 l2 =>
      rw [hc] at hne
      simp only [Res.bind] at hne ⊢
      have Hc := Lib.hid hc
      clear hc
      cases us2 with
      | nil => simp [takeF] at hne
      | cons x us3 =>
        by_cases hx : x.text = [41]
        case neg =>
          simp only [takeF, if_neg hx]
          have Hx := Lib.hid hx
          clear hx hne
          go_enter Tryz.func102, Tryz.ntmps102
          go_upto_region 2 with (go_at_call 53; refine (HO.out).mono ?_; rintro e w1 ⟨rfl, Ho⟩)
          have h1 := Lib.hid (HH.out.reader Ho.out.1 Ho.out.2 hle)
          have HX := Lib.hid (HC (lvl := 0) w1 (by omega) h1.out (by rw [Hc.out]; simp))
          rw [Hc.out] at HX
          go_upto_region 3 with (go_at_call 95; refine (HX.out).mono ?_; rintro e w2 ⟨rfl, Hb⟩)
          obtain ⟨v2, m2, i2, s2, s2'⟩ := Hb.out
          have HT := Lib.hid (take_no w2 i2.rd Hx.out)
          have M2 := Lib.hid m2
          clear m2 i2 s2 s2'
          go_wp2_with (go_at_call 23; refine (HT.out).mono ?_; rintro e w3 ⟨rfl, Hz⟩)
          exact ⟨rfl, rfl, Lib.hid (Below.trans (Mv.below HH.out ((Mv.reader Ho.out.1).trans M2.out)) Hz.out)⟩
        case pos =>
          simp only [takeF, if_pos hx]
          have Hx := Lib.hid hx
          clear hx hne
          go_enter Tryz.func102, Tryz.ntmps102
          go_upto_region 2 with (go_at_call 53; refine (HO.out).mono ?_; rintro e w1 ⟨rfl, Ho⟩)
          have h1 := Lib.hid (HH.out.reader Ho.out.1 Ho.out.2 hle)
          have HX := Lib.hid (HC (lvl := 0) w1 (by omega) h1.out (by rw [Hc.out]; simp))
          rw [Hc.out] at HX
          go_upto_region 3 with (go_at_call 95; refine (HX.out).mono ?_; rintro e w2 ⟨rfl, Hb⟩)
          obtain ⟨v2, m2, i2, s2, s2'⟩ := Hb.out
          have HT := Lib.hid (take_yes w2 i2.rd Hx.out)
          have M2 := Lib.hid m2
          have I2 := Lib.hid i2
          have S2 := Lib.hid (And.intro s2 s2')
          clear m2 i2 s2 s2'
          go_upto_region 4 with (go_at_call 23; refine (HT.out).mono ?_; rintro e w3 ⟨rfl, Hz⟩)
          have HZ := Lib.hid (close_any w3 Hz.out.2)
          go_wp2_with (go_at_call 55; refine (HZ.out).mono ?_; rintro e w4 ⟨rfl, Hy⟩)
          go_ret
          have hcc := Hz.out.1.then Hy.out.1
          obtain ⟨s2, s2'⟩ := S2.out
          simp only [List.length_cons] at s2 s2'
          refine ⟨rfl, Lib.hid ⟨v2, ((Mv.reader Ho.out.1).trans M2.out).trans (Mv.reader hcc), I2.out.reader hcc Hy.out.2 (by simp), by simp only [List.length_cons]; omega, by simp only [List.length_cons]; omega⟩⟩
set_option maxRecDepth 100000 in
set_option maxHeartbeats 2000000 in
theorem index_step {f : Nat} (HC : ChainSaid f) : IndexSaid (f + 1) := by
  intro B G r q o d cur t v us dp l w h hne
  cases us with
  | nil => exact absurd (by simp [bracketF, openF, Res.bind]) hne
  | cons u us =>
    by_cases hu : u.text = [91]
    case neg =>
      have e : bracketF (f + 1) [91] [93] (u :: us) d dp l = .bad u.place := by simp [bracketF, openF, Res.bind, hu]
      rw [e]; clear e hne
      have HI := Lib.hid (open_no w h.rd hu)
      clear h hu
      go_enter Tryz.func89, Tryz.ntmps89
      go_wp2_with (go_at_call 53; refine (HI.out).mono ?_; rintro e w1 ⟨rfl, Hk⟩)
      exact ⟨rfl, rfl, Hk⟩
    have HO := Lib.hid (open_yes w h.rd hu)
    have e : bracketF (f + 1) [91] [93] (u :: us) d dp l = (chainF f 0 us (d + 1) (dpF d dp u.place) l).bind fun us2 dp2 l2 => (takeF [93] us2 dp2).bind fun us3 dp3 _ => .ok us3 dp3 l2 := by simp [bracketF, openF, Res.bind, hu]
    rw [e] at hne ⊢; clear e
    have HH := Lib.hid h
    have hle : us.length ≤ (u :: us).length := by simp
    clear hu h
    cases hc : chainF f 0 us (d + 1) (dpF d dp u.place) l with
    | out => rw [hc] at hne; exact absurd rfl hne
    | bad k =>
      clear hne
      have Hc := Lib.hid hc
      clear hc
      go_enter Tryz.func89, Tryz.ntmps89
      go_upto_region 2 with (go_at_call 53; refine (HO.out).mono ?_; rintro e w1 ⟨rfl, Ho⟩)
      have h1 := HH.out.reader Ho.out.1 Ho.out.2 hle
      have HX := Lib.hid (HC (lvl := 0) w1 (by omega) h1 (by rw [Hc.out]; simp))
      rw [Hc.out] at HX
      clear h1
      go_wp2_with (go_at_call 95; refine (HX.out).mono ?_; rintro e w2 ⟨rfl, Hb⟩)
      exact ⟨rfl, rfl, Lib.hid (Below.trans (Mv.below HH.out (Mv.reader Ho.out.1)) Hb.out)⟩
    | ok us2 dp2 l2 =>
      rw [hc] at hne
      simp only [Res.bind] at hne ⊢
      have Hc := Lib.hid hc
      clear hc
      cases us2 with
      | nil => simp [takeF] at hne
      | cons x us3 =>
        by_cases hx : x.text = [93]
        case neg =>
          simp only [takeF, if_neg hx]
          have Hx := Lib.hid hx
          clear hx hne
          go_enter Tryz.func89, Tryz.ntmps89
          go_upto_region 2 with (go_at_call 53; refine (HO.out).mono ?_; rintro e w1 ⟨rfl, Ho⟩)
          have h1 := Lib.hid (HH.out.reader Ho.out.1 Ho.out.2 hle)
          have HX := Lib.hid (HC (lvl := 0) w1 (by omega) h1.out (by rw [Hc.out]; simp))
          rw [Hc.out] at HX
          go_upto_region 3 with (go_at_call 95; refine (HX.out).mono ?_; rintro e w2 ⟨rfl, Hb⟩)
          obtain ⟨v2, m2, i2, s2, s2'⟩ := Hb.out
          have HT := Lib.hid (take_no w2 i2.rd Hx.out)
          have M2 := Lib.hid m2
          clear m2 i2 s2 s2'
          go_wp2_with (go_at_call 23; refine (HT.out).mono ?_; rintro e w3 ⟨rfl, Hz⟩)
          exact ⟨rfl, rfl, Lib.hid (Below.trans (Mv.below HH.out ((Mv.reader Ho.out.1).trans M2.out)) Hz.out)⟩
        case pos =>
          simp only [takeF, if_pos hx]
          have Hx := Lib.hid hx
          clear hx hne
          go_enter Tryz.func89, Tryz.ntmps89
          go_upto_region 2 with (go_at_call 53; refine (HO.out).mono ?_; rintro e w1 ⟨rfl, Ho⟩)
          have h1 := Lib.hid (HH.out.reader Ho.out.1 Ho.out.2 hle)
          have HX := Lib.hid (HC (lvl := 0) w1 (by omega) h1.out (by rw [Hc.out]; simp))
          rw [Hc.out] at HX
          go_upto_region 3 with (go_at_call 95; refine (HX.out).mono ?_; rintro e w2 ⟨rfl, Hb⟩)
          obtain ⟨v2, m2, i2, s2, s2'⟩ := Hb.out
          have HT := Lib.hid (take_yes w2 i2.rd Hx.out)
          have M2 := Lib.hid m2
          have I2 := Lib.hid i2
          have S2 := Lib.hid (And.intro s2 s2')
          clear m2 i2 s2 s2'
          go_upto_region 4 with (go_at_call 23; refine (HT.out).mono ?_; rintro e w3 ⟨rfl, Hz⟩)
          have HZ := Lib.hid (close_any w3 Hz.out.2)
          go_wp2_with (go_at_call 55; refine (HZ.out).mono ?_; rintro e w4 ⟨rfl, Hy⟩)
          go_ret
          have hcc := Hz.out.1.then Hy.out.1
          obtain ⟨s2, s2'⟩ := S2.out
          simp only [List.length_cons] at s2 s2'
          refine ⟨rfl, Lib.hid ⟨v2, ((Mv.reader Ho.out.1).trans M2.out).trans (Mv.reader hcc), I2.out.reader hcc Hy.out.2 (by simp), by simp only [List.length_cons]; omega, by simp only [List.length_cons]; omega⟩⟩
set_option maxRecDepth 100000 in
set_option maxHeartbeats 2000000 in
theorem signed_step {f : Nat} (HC : UnarySaid f) : SignedSaid (f + 1) := by
  intro B G r q o d cur t v u us dp l w h hne
  have e : signedF (f + 1) u us d dp l = unaryF f us (d + 1) (dpF d dp u.place) l := by simp [signedF]
  rw [e] at hne ⊢; clear e
  have HP := Lib.hid (peek_any w h.rd)
  have HH := Lib.hid h
  have hle : us.length ≤ (u :: us).length := by simp
  clear h
  cases hc : unaryF f us (d + 1) (dpF d dp u.place) l with
  | out => rw [hc] at hne; exact absurd rfl hne
  | bad k =>
    clear hne
    have Hc := Lib.hid hc
    clear hc
    go_enter Tryz.func103, Tryz.ntmps103
    go_upto_region 2 with (first | (go_at_call 14; refine (HP.out).mono ?_; rintro e w0 ⟨rfl, Hk⟩) | (go_at_call 53; refine (open_yes _ (HH.out.kept Hk.out).rd rfl).mono ?_; rintro e w1 ⟨rfl, Ho⟩))
    have h1 := (HH.out.kept Hk.out).reader Ho.out.1 Ho.out.2 hle
    have HX := Lib.hid (HC w1 h1 (by rw [Hc.out]; simp))
    rw [Hc.out] at HX
    clear h1
    go_wp2_with (go_at_call 97; refine (HX.out).mono ?_; rintro e w2 ⟨rfl, Hb⟩)
    exact ⟨rfl, rfl, Lib.hid (Below.trans (Mv.below HH.out ((Mv.kept Hk.out).trans (Mv.reader Ho.out.1))) Hb.out)⟩
  | ok us2 dp2 l2 =>
    clear hne
    have Hc := Lib.hid hc
    clear hc
    go_enter Tryz.func103, Tryz.ntmps103
    go_upto_region 2 with (first | (go_at_call 14; refine (HP.out).mono ?_; rintro e w0 ⟨rfl, Hk⟩) | (go_at_call 53; refine (open_yes _ (HH.out.kept Hk.out).rd rfl).mono ?_; rintro e w1 ⟨rfl, Ho⟩))
    have h1 := (HH.out.kept Hk.out).reader Ho.out.1 Ho.out.2 hle
    have HX := Lib.hid (HC w1 h1 (by rw [Hc.out]; simp))
    rw [Hc.out] at HX
    clear h1
    go_upto_region 3 with (go_at_call 97; refine (HX.out).mono ?_; rintro e w2 ⟨rfl, Hb⟩)
    obtain ⟨v2, m2, i2, s2, s2'⟩ := Hb.out
    have HZ := Lib.hid (close_any w2 i2.rd)
    have M2 := Lib.hid m2
    have I2 := Lib.hid i2
    have S2 := Lib.hid (And.intro s2 s2')
    clear m2 i2 s2 s2'
    go_wp2_with (go_at_call 55; refine (HZ.out).mono ?_; rintro e w4 ⟨rfl, Hy⟩)
    go_ret
    obtain ⟨s2, s2'⟩ := S2.out
    exact ⟨rfl, Lib.hid ⟨v2, (((Mv.kept Hk.out).trans (Mv.reader Ho.out.1)).trans M2.out).trans (Mv.reader Hy.out.1), I2.out.reader Hy.out.1 Hy.out.2 (Nat.le_refl _), s2, s2'⟩⟩
end Go.Proofs.YtoafcpbpnkfhoaaGreatDoor.Prs
