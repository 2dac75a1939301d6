/-
  Proved: the statement 'ShapeDominatesCardSaid' of the seat: for every input that law returns true, and each argument reads afterwards as it read before; the package variable that its row lists is tied to the program's text. No condition of ours.
-/
import Derived.Test.YtpkebokfbigggaaDoorRows
import Derived.Test.YtpkebokfbigggaaDoorTie
import Derived.Test.YtpkebokfbigggaaDoorCards
import Derived.Test.YtpkebokfbigggaaDoorShqR
import Derived.ChangeMaps5
import Derived.ChangeSlices
import Derived.ChangeOld
import Derived.Deep.Grids
import Derived.Test.YtpkebokfbigggaaDoorShpT
import Derived.Test.YtpkebokfbigggaaDoorShpO
namespace Go.Proofs.YtpkebokfbigggaaDoor.shapeDominates
open Go.RowKit Go.ChangeShapes Go.WideShapes Go.ChangeAt
open Go.ChangeMaps (open_string shut_string)
theorem laidOut : laidOutB Tryd.prog = true := by kernel_rfl
/-- A slice of integers that came in. -/
def IsRow (k : IntKind) (w : World) (a : Option Addr) (len cap : Nat) (zs : List Int) : Prop :=
  (a = none ∧ len = 0 ∧ cap = 0 ∧ zs = []) ∨ ∃ x, a = some x ∧ len ≤ cap ∧ cap ≤ maxLen ∧ zs.length = cap ∧ (∀ i, i < zs.length → w.cell? (x.add i) = some (.int k (zs.getD i 0))) ∧ ∀ n ∈ zs, (Lit.int k n).wf = true
/-- A slice of bools that came in. -/
def IsRowB (w : World) (a : Option Addr) (len cap : Nat) (B : Nat → Bool) : Prop :=
  (a = none ∧ len = 0 ∧ cap = 0) ∨ ∃ x, a = some x ∧ len ≤ cap ∧ cap ≤ maxLen ∧ ∀ i, i < cap → w.cell? (x.add i) = some (.bool (B i))
open Shp
open Classical
set_option maxHeartbeats 4000000 in
set_option maxRecDepth 100000 in
theorem walk (a0 : Option Addr) (len0 cap0 : Nat) (z0 : List (List Int)) (a1 : Int) (w1 : (Lit.int .i64 a1).wf = true) (w : World) (w0 : z0.length = len0 ∧ Shp.GraphAt w (.slice a0 len0 cap0) z0) (hT : Shp.Tab w) : Calls Tryd.prog 4 #[.slice a0 len0 cap0, .int .i64 a1] w fun e w' => e = .returned (.bool true) ∧ Below w.heap.size w w' := by
  have HT0 := Lib.hid hT
  clear hT
  obtain ⟨hl0, hg⟩ := w0
  subst hl0
  have HG := Lib.hid hg
  have hgs := hg.small
  have hx1 := bounds_i64 w1
  have HGr := Lib.hid (great_any w _ z0 hg)
  simp only [maxLen] at hgs
  obtain ⟨i0, hi, hz0, hz1, hz2⟩ := info_get slice_inf
  have Hj := Lib.hid (And.intro hi (And.intro hz0 (And.intro hz1 hz2)))
  clear w1 hg hi hz0 hz1 hz2
  by_cases hgb : greatB z0 = true ∨ a1 < 0 ∨ (z0.length : Int) ≤ a1
  · cases hgt : greatB z0
    case' true =>
      rw [hgt] at HGr
    case' false =>
      rw [hgt] at HGr
      have hd1 : ¬ a1 < 0 → (z0.length : Int) ≤ a1 := fun h => by
        rcases hgb with h1 | h1 | h1
        · rw [hgt] at h1; cases h1
        · omega
        · exact h1
      have hd2 : decide (a1 < 0) = false → decide ((z0.length : Int) ≤ a1) = true := fun h => decide_eq_true (hd1 (of_decide_eq_false h))
      have Hd1 := Lib.hid hd1
      clear hd1 hd2
    case' true =>
      clear hgb hgt
      go_enter Tryd.func4, Tryd.ntmps4
      go_wp2_with (first | (go_at_call 7; refine (HGr.out).mono ?_; rintro e w' ⟨rfl, rfl⟩) | (go_at_call 8; refine (awake_any _ HT0.out).mono ?_; rintro e w9 ⟨rfl, H9⟩))
      go_ret
      exact ⟨rfl, H9.out⟩
    case' false =>
      clear hgb hgt
      by_cases hn : a1 < 0
      · clear Hd1
        go_enter Tryd.func4, Tryd.ntmps4
        go_wp2_with (first | (go_at_call 7; refine (HGr.out).mono ?_; rintro e w' ⟨rfl, rfl⟩) | (go_at_call 8; refine (awake_any _ HT0.out).mono ?_; rintro e w9 ⟨rfl, H9⟩))
        go_ret
        exact ⟨rfl, H9.out⟩
      · have hp := Hd1.out hn
        have hn' : 0 ≤ a1 := by omega
        clear Hd1 hn
        go_enter Tryd.func4, Tryd.ntmps4
        go_wp2_with (first | (go_at_call 7; refine (HGr.out).mono ?_; rintro e w' ⟨rfl, rfl⟩) | (go_at_call 8; refine (awake_any _ HT0.out).mono ?_; rintro e w9 ⟨rfl, H9⟩))
        go_ret
        exact ⟨rfl, H9.out⟩
  obtain ⟨hgn, hfr⟩ := not_or.1 hgb
  have hgf : greatB z0 = false := by
    cases h : greatB z0
    · rfl
    · exact absurd h hgn
  obtain ⟨q, rfl⟩ : ∃ q : Nat, a1 = q := ⟨a1.toNat, by omega⟩
  have hq : q < z0.length := by omega
  have hq2 : (q : Int) < (z0.length : Int) := by omega
  have hq3 : decide ((z0.length : Int) ≤ (q : Int)) = false := decide_eq_false (by omega)
  rw [hgf] at HGr
  have hl30 := great_small hgf
  have hl2000 : z0.length ≤ 2000 := by omega
  have Lr := Lib.hid (reachL_len (g := z0) (q : Int))
  have Ld := Lib.hid (idomL_len (g := z0) (q : Int))
  have E0 : Hid (idomV z0 (q : Int) q = -1) := Lib.hid (idomV_no fun ⟨_, p, hp⟩ => by
    have := hp.1
    rw [toNat_nat] at this
    exact no_sdom_start this)
  have HC := Lib.hid (sdominators_any w _ z0 q HG.out hl30 HT0.out)
  have HC2 := Lib.hid (fun W (hk : Kept w W) => sreach_any W _ z0 q (HG.out.kept hk) hl30 (HT0.out.kept hk))
  clear hgb hgn hgf hfr
  go_enter Tryd.func4, Tryd.ntmps4
  go_upto_region 4 with (first | (go_at_call 7; refine (HGr.out).mono ?_; rintro e w' ⟨rfl, rfl⟩) | (go_at_call 13; refine (HC.out).mono ?_; rintro e w1 ⟨vd, rfl, H1⟩) | (go_at_call 10; refine (HC2.out _ H1.out.1).mono ?_; rintro e w2 ⟨vr, rfl, H2⟩))
  have K2 := Lib.hid (H1.out.1.trans H2.out.1)
  have HD := Lib.hid (own_list2 (f := vi) (own_kept H1.out.2 H2.out.1) Ld.out)
  have HR := Lib.hid (own_list2 (f := vb) H2.out.2 Lr.out)
  obtain ⟨da, dc, e⟩ := HD.out.form
  rw [Ld.out] at e
  subst e
  obtain ⟨ra, rc, e⟩ := HR.out.form
  rw [Lr.out] at e
  subst e
  obtain ⟨xd, rfl, p1, p2, c1⟩ := HD.out.at (j := q) (by rw [Ld.out]; exact hq)
  rw [idomL_at, E0.out] at c1
  rw [Ld.out] at p1
  simp only [maxLen] at p2
  simp only [vi] at c1
  have hnn : ((z0.length : Int) != (z0.length : Int)) = false := by simp
  clear H1 H2 HC HC2
  go_wp2
  clear c1 p1 p2
  go_loopg [7] (z0.length) (fun m i wz => ∃ k : Nat, m = z0.length - k ∧ k ≤ z0.length ∧ i = .int .i64 (k : Int) ∧ Hid (Kept w2 wz))
  case atStart => exact ⟨0, by omega, by omega, rfl, Lib.hid (Kept.refl _)⟩
  case round =>
    obtain ⟨k, rfl, hk, rfl, HK⟩ := hrel
    by_cases hlt : k < z0.length
    case neg =>
      obtain rfl : k = z0.length := by omega
      clear hlt
      go_wp2_with (go_at_call 8; refine (awake_any _ (HT0.out.kept (K2.out.trans HK.out))).mono ?_; rintro e w9 ⟨rfl, H9⟩)
      go_ret
      exact ⟨rfl, (K2.out.trans HK.out).trans H9.out⟩
    obtain ⟨xd', e, p1, p2, c1⟩ := (HD.out.kept HK.out).at (j := k) (by rw [Ld.out]; exact hlt)
    injection e with e
    subst e
    obtain ⟨xr, rfl, p3, p4, c2⟩ := (HR.out.kept HK.out).at (j := k) (by rw [Lr.out]; exact hlt)
    rw [idomL_at] at c1
    rw [reachL_at] at c2
    rw [Ld.out] at p1
    rw [Lr.out] at p3
    simp only [maxLen] at p2 p4
    simp only [vi, vb] at c1 c2
    have HDm := Lib.hid (fun W (hk : Kept w2 W) => sdominates_any W _ (idomL z0 (q : Int)) q k (HD.out.kept hk) (by rw [Ld.out]; omega))
    by_cases hre : ReI z0 q k
    case neg =>
      rw [decide_eq_false hre] at c2
      have hid : idomV z0 (q : Int) k = -1 := idomV_no fun ⟨_, p, hp⟩ => hre ⟨by omega, hp.1.2.1⟩
      rw [hid] at c1
      clear hid hre HDm
      go_upto_region 9 with fail
      by_cases hkq : (k : Int) != (q : Int)
      all_goals
        go_quiet (fail)
        go_wp2
        go_roundg (z0.length - (k + 1))
        case measure => omega
        case rel => exact ⟨k + 1, rfl, by omega, by simp, Lib.hid (HK.out.drewN _)⟩
    rw [decide_eq_true hre] at c2
    by_cases hkq : k = q
    case pos =>
      subst hkq
      rw [E0.out] at c1
      have hb : domB (idomL z0 (k : Int)) k k = true := by
        rw [domB_idom (by omega) (show Re z0 (k : Int).toNat k from hre.2)]
        exact decide_eq_true (.inl rfl)
      rw [hb] at HDm
      have hkk : ((k : Int) != (k : Int)) = false := by simp
      clear hb hre
      go_upto_region 9 with fail
      go_quiet ((go_at_call 15; exact Calls.quiet_of (HDm.out _ (HK.out.drewN _))))
      go_wp2
      go_roundg (z0.length - (k + 1))
      case measure => omega
      case rel => exact ⟨k + 1, rfl, by omega, by simp, Lib.hid (HK.out.drewN _)⟩
    have hqk : ((k : Int) != (q : Int)) = true := by rw [bne_iff_ne]; omega
    obtain ⟨p, hp⟩ := idom_ex (g := z0) (f := q) (x := k) (by have := hre.2; rw [toNat_nat] at this; exact this) (fun e => hkq e.symm)
    rw [idomV_yes (by omega) (show IsIdom z0 (q : Int).toNat p k from by rw [toNat_nat]; exact hp)] at c1
    have hb : domB (idomL z0 (q : Int)) q k = true := by
      rw [domB_idom (by omega) hre.2]
      refine decide_eq_true (.inr ?_)
      rw [toNat_nat]
      have h2 := hre.2
      rw [toNat_nat] at h2
      exact start_sdom h2 (fun e => hkq e.symm)
    rw [hb] at HDm
    have Hp := Lib.hid hp
    have hpl : p < z0.length := hp.1.lt.lt
    have hpk : p ≠ k := hp.1.1
    have h0p : 0 ≤ (p : Int) := by omega
    have hx9 : ¬ (p : Int) < 0 := by omega
    clear hb hre hp
    go_upto_region 9 with fail
    go_quiet ((go_at_call 15; exact Calls.quiet_of (HDm.out _ (HK.out.drewN _))))
    have HK3 := Lib.hid (HK.out.drewN nq)
    clear HDm HK c1 c2 p1 p2 p3 p4
    generalize hW : wr.drewN nq = w4 at *
    clear hW
    have HI := Lib.hid (fun W (hk : Kept w2 W) => show W.cell? (xd.add k) = some (.int .i64 (p : Int)) from by
      obtain ⟨x', e, _, _, c⟩ := (HD.out.kept hk).at (j := k) (by rw [Ld.out]; exact hlt)
      injection e with e
      subst e
      rw [idomL_at, idomV_yes (by omega) (show IsIdom z0 (q : Int).toNat p k from by rw [toNat_nat]; exact Hp.out)] at c
      exact c)
    have hbd : z0.length ≤ dc ∧ dc ≤ 9223372036854775807 := by
      obtain ⟨_, _, h1, h2, _⟩ := HD.out.at (j := k) (by rw [Ld.out]; exact hlt)
      rw [Ld.out] at h1
      simp only [maxLen] at h2
      exact ⟨h1, by omega⟩
    obtain ⟨p1, p2⟩ := hbd
    have c1 := HI.out w4 HK3.out
    go_wp2
    have hst : Hid (∃ us, CutAt w4 w4 (.slice none 0 0) z0 p 0 us) := Lib.hid ⟨[], cut_start _ _ (Kept.refl _) _ _⟩
    clear c1
    go_loopg [8, 9] (z0.length) (fun m vh i wz => ∃ j : Nat, m = z0.length - j ∧ j ≤ z0.length ∧ i = .int .i64 (j : Int) ∧ Hid (∃ us, CutAt w4 wz vh z0 p j us))
    case atStart => exact ⟨0, by omega, by omega, rfl, hst⟩
    case round =>
      clear hst
      rename World => w5
      obtain ⟨j, rfl, hj, rfl, HU⟩ := hrel
      obtain ⟨us, HU⟩ := HU.out
      have HC := Lib.hid HU
      obtain ⟨ha, hc, e⟩ := own_form HU.own
      subst e
      have hws := Below.size HU.kept
      have c1 := HI.out w5 (HK3.out.trans HU.kept)
      clear HU
      by_cases hlj : j < z0.length
      case neg =>
        obtain rfl : j = z0.length := by omega
        have HGc := Lib.hid (HC.out.graph (HG.out).1)
        have HKc := Lib.hid (HK3.out.trans HC.out.kept)
        have HRc := Lib.hid (reach_any w5 _ (cutG z0 p) (q : Int) HGc.out (by rw [cutG_len]; exact hl2000))
        have hno : ¬ ReI (cutG z0 p) q k := fun h => by
          have h2 := h.2
          rw [toNat_nat] at h2
          rcases cutG_re h2 with e | e
          · exact hpk e.symm
          · exact Hp.out.1.2.2 e
        have HNo := Lib.hid hno
        have hpk2 : ((p : Int) == (k : Int)) = false := by rw [beq_eq_false_iff_ne]; omega
        have hpz : decide ((z0.length : Int) ≤ (p : Int)) = false := decide_eq_false (by omega)
        have hpz2 : decide (z0.length ≤ p) = false := decide_eq_false (by omega)
        clear hlj HC hno
        go_upto_region 20 with (go_at_call 11; refine (HRc.out).mono ?_; rintro e w6 ⟨vs, rfl, H6⟩)
        have c1' := HI.out w6 (HKc.out.trans H6.out.1)
        obtain ⟨sa, sc, e⟩ := own_form H6.out.2
        subst e
        obtain ⟨gs, e, -, -, s1, s2, c3⟩ := mark_at H6.out.2 (b := k) (by rw [reachL_len, cutG_len]; exact hlt)
        subst e
        rw [reachL_at, decide_eq_false HNo.out] at c3
        rw [cutG_len] at s1 ⊢
        simp only [maxLen] at s2
        have HK6 := Lib.hid (HKc.out.trans H6.out.1)
        clear c1 H6 HRc HKc
        go_wp2
        go_roundg (z0.length - (k + 1))
        case measure => omega
        case rel => exact ⟨k + 1, rfl, by omega, by simp, HK6⟩
      by_cases hjp : j = p
      · subst hjp
        have hjj : ((j : Int) == (j : Int)) = true := by simp
        have hjk : ((j : Int) != (k : Int)) = true := by rw [bne_iff_ne]; omega
        have hrow : ListAt vi w4 (.slice none 0 0) (row (cutG z0 j) j) := by
          rw [cutG_row hlj, if_pos rfl]; exact list_nil _
        have HRow := Lib.hid hrow
        clear hrow
        go_wp2_with (at_builtin; refine wpList_append_lies _ rfl (.tmp 105) (.tmp 106) 22 rfl w4.heap.size 23 i0 _ 1 24 Tryd.underlying22 Hj.out.1 Hj.out.2.1 Hj.out.2.2.1 Hj.out.2.2.2 rfl (by omega) (.slice ha j hc) j us rfl (HC.out.own.alloc _) ⟨w5.heap.size, 0, none⟩ 1 1 [.slice none 0 0] rfl rfl (World.news_of_block (cs := #[.slice none 0 0]) (heap_alloc_new w5 _)) (by simp [Value.oneCell']) (by omega) (by simp only [maxLen]; omega) (by omega) (by simp; omega) (w5.heap.size + 1) (by simp) ?_; intro g7 cap7 w7 hown hgrow hat hlt7; have Hown := Lib.hid hown; have Hgrow := Lib.hid hgrow; clear hown hgrow hat)
        go_roundg (z0.length - (j + 1))
        case measure => omega
        case rel => exact ⟨j + 1, rfl, by omega, by simp, Lib.hid ⟨_, HC.out.snoc Hgrow.out Hown.out HRow.out⟩⟩
      · have hjj : ((j : Int) == (p : Int)) = false := by rw [beq_eq_false_iff_ne]; omega
        obtain ⟨xg, b2, d2, e, r1, r2, cg, hrow, hwf⟩ := (HG.out.kept ((K2.out.trans HK3.out).trans HC.out.kept)).at hlj
        subst e
        obtain ⟨xg', b3, d3, e, -, -, cg', hrow', -⟩ := (HG.out.kept (K2.out.trans HK3.out)).at hlj
        injection e with e
        subst e
        have hsame : (.slice b3 (row z0 j).length d3 : Value) = .slice b2 (row z0 j).length d2 := by
          have := HC.out.kept
          have h9 := (World.cell?_of_block (a := xg.add j) (this.block _ (World.block_lt_of_cell? _ _ cg'))).trans cg'
          rw [cg] at h9
          injection h9 with h9
          exact h9.symm
        rw [hsame] at hrow'
        have HRow := Lib.hid (show ListAt vi w4 (.slice b2 (row z0 j).length d2) (row (cutG z0 p) j) from by rw [cutG_row hlj, if_neg hjp]; exact hrow')
        simp only [maxLen] at r2
        clear hrow hwf cg' hrow' hsame hjp
        generalize (row z0 j).length = nr at *
        go_wp2_with (at_builtin; refine wpList_append_lies _ rfl (.tmp 108) (.tmp 113) 22 rfl w4.heap.size 23 i0 _ 1 24 Tryd.underlying22 Hj.out.1 Hj.out.2.1 Hj.out.2.2.1 Hj.out.2.2.2 rfl (by omega) (.slice ha j hc) j us rfl (HC.out.own.alloc _) ⟨w5.heap.size, 0, none⟩ 1 1 [.slice b2 nr d2] rfl rfl (World.news_of_block (cs := #[.slice b2 nr d2]) (heap_alloc_new w5 _)) (by simp [Value.oneCell']) (by omega) (by simp only [maxLen]; omega) (by omega) (by simp; omega) (w5.heap.size + 1) (by simp) ?_; intro g7 cap7 w7 hown hgrow hat hlt7; have Hown := Lib.hid hown; have Hgrow := Lib.hid hgrow; clear hown hgrow hat)
        go_roundg (z0.length - (j + 1))
        case measure => omega
        case rel => exact ⟨j + 1, rfl, by omega, by simp, Lib.hid ⟨_, HC.out.snoc Hgrow.out Hown.out HRow.out⟩⟩

set_option maxRecDepth 100000 in
theorem lifted (os : Os) (started : os.Started) (H : Type) (enc : TypeId × Value → H) :
    ReturnsInHanded {} Tryd.checked os 4 .any (fun w args => (Rows.shapeDominatesSpec.pre enc Tryd.prog Tryd.f4 [] false w args ∧ laidMetH Tryd.prog Shp.laid1 w) ∧ sizedMet enc Tryd.prog Tryd.f4 (OpenSpec.ofChange Rows.shapeDominatesSpec) false w args)
      (Rows.shapeDominatesSpec.post enc Tryd.prog Tryd.f4 false true false false) := by
  refine returnsInHanded_of_change_and (C := Tryd.checked) (X := fun w _ => laidMetH Tryd.prog Shp.laid1 w) (fun _ _ _ hh h => h.of_heap hh) Shp.own started (by kernel_rfl) Tryd.func4
    (ChangeSpec.witness_shaped (enc := enc) (C := Tryd.checked) (os := os) (X := fun w _ => laidMetH Tryd.prog Shp.laid1 w) false (World.doorLaid Tryd.prog 400 os) #[.slice none 0 0, .int .i64 0] 8 rfl (World.shaped_of_RefB (by kernel_rfl) (by kernel_rfl)) (by kernel_rfl) (by kernel_rfl) (by kernel_rfl) (Shp.door_met os _)) ?_
  intro W base args ds gs before hval0 hW _ _ hL _
  have hval : ∀ (j : Nat) t v, Tryd.f4.params[j]? = some t → args[j]? = some v → Value.okWide Tryd.prog W .any base t v := hval0
  have hW' := hW
  obtain ⟨p, q, hA0, hV, rfl, hfz, hnd⟩ := hW
  have hA : DataW.TrodAll enc Tryd.prog W 0 (fun _ => true) true Tryd.f4.params.toList args.toList ds p := hA0
  rw [Tryd.params4] at hA hval
  obtain ⟨v0, vs0, d0, ds0, p0, q0, hargs, rfl, rfl, h0, r0⟩ := trodAll_cons hA
  obtain ⟨v1, vs1, d1, ds1, p1, q1, rfl, rfl, rfl, h1, r1⟩ := trodAll_cons r0
  obtain ⟨rfl, rfl, rfl⟩ := trodAll_nil r1
  obtain rfl : args = #[v0, v1] := by cases args; simp_all
  obtain ⟨rfl, rfl⟩ := trodVars_none hV
  obtain ⟨a0, len0, cap0, rfl⟩ := okWide_slice Tryd.underlying22 (hval 0 22 v0 rfl rfl)
  have k0 := h0
  have lt0 : ∀ x ∈ p0, x.block < W.heap.size := by obtain ⟨m, hm⟩ := k0; exact DataW.trod_lt m _ _ _ hm
  obtain ⟨z0, w0⟩ : ∃ g : Shp.Gr, g.length = len0 ∧ Shp.GraphAt W (.slice a0 len0 cap0) g := by
    obtain ⟨fuel, hf⟩ := h0
    exact Shp.open_graph Tryd.underlying22 Tryd.underlying23 Tryd.underlying3 (by kernel_rfl) (by kernel_rfl) (by simpa [Value.cells] using hf)
  obtain ⟨a1, rfl, rfl, rfl, w1⟩ := open_int Tryd.underlying3 (hval 1 3 v1 rfl rfl) h1
  have hTab := Shp.of_laid hL
  clear hA0 hval0
  refine (walk a0 len0 cap0 z0 a1 w1 W w0 hTab).mono fun e W' ⟨he, hg⟩ => ?_
  subst he
  have bel : Below W.heap.size W W' := hg
  exact ⟨_, rfl, _, _, _, [], _, [], hW', trodAll_mk1 (shut_bool Tryd.underlying4 _), (trodAll_cons_mk (Below.trod laidOut (by kernel_rfl) (of_decide_eq_true (by kernel_rfl)) k0 bel lt0) (trodAll_cons_mk (shut_int Tryd.underlying3 w1) trodAll_mk0)), rfl, bel.frame _, fun h => by cases h⟩

theorem over : Rows.shapeDominatesRow.holds Tryd.pinned (OpenSpec.ofChange Rows.shapeDominatesSpec) :=
  OpenClaim.holds_of_wide 4 Tryd.f4 rfl rfl rfl rfl rfl rfl rfl ⟨rfl, rfl, rfl, rfl, rfl⟩ rfl rfl rfl rfl rfl (by kernel_rfl) Tryd.func4 (by kernel_rfl)
    (of_decide_eq_true (by kernel_rfl)) (by unfold Func.isWrapper; first | (rw [if_pos (by decide +kernel)]; kernel_rfl) | (rw [if_neg (by decide +kernel)]; exact ⟨rfl, rfl⟩))
    (fun os started H enc _ => lifted os started H enc)

/-- THE STATEMENT. -/
theorem proved : Rows.ShapeDominatesCardSaid :=
  Claim7.holds_tied_plain_at .later [] [.data] true (true, "8e7315473c9697215e2e1a16c82e7f3df319d5ca6ceefee2e44519cea163f4a1") false
    over (fun _ h => by cases h) (by kernel_rfl) (fun _ h => by cases h) shapeDominates_row_tie rfl ⟨rfl, rfl⟩ (by kernel_rfl) rfl
    (fun f fn hf hfn => by
      obtain rfl : f = 4 := Option.some.inj ((show Tryd.prog.funcNamed "calliper/calliperlaw12.ShapeDominates" = some 4 by kernel_rfl).symm.trans hf) |>.symm
      obtain rfl : fn = Tryd.f4 := (Option.some.inj (Tryd.func4.symm.trans hfn)).symm
      exact ⟨by kernel_rfl, fun j t ht => by
        rw [Tryd.params4] at ht
        have hm : t ∈ [22, 3] := by simpa using Array.mem_of_getElem? ht
        have hall : ([22, 3].all fun u => !Tryd.prog.wantsStandIn u) = true := by kernel_rfl
        exact (show Tryd.prog.wantsStandIn t = false by simpa using List.all_eq_true.1 hall t hm)⟩)
    (by kernel_rfl)
#print axioms proved
end Go.Proofs.YtpkebokfbigggaaDoor.shapeDominates
