/-
  Proved: the statement 'ShapeOrdersCardSaid' of the seat: for every input that law returns true, and each argument reads afterwards as it read before; the package variable that its row lists is tied to the program's text. No condition of ours.
-/
import Derived.Test.YtpkebokfbigggaaDoorRows
import Derived.Test.YtpkebokfbigggaaDoorTie
import Derived.Test.YtpkebokfbigggaaDoorCards
import Derived.Test.YtpkebokfbigggaaDoorShqR
import Derived.ChangeMaps5
import Derived.ChangeSlices
import Derived.ChangeOld
import Derived.Deep.Grids
import Derived.Test.YtpkebokfbigggaaDoorShpU
import Derived.Test.YtpkebokfbigggaaDoorShpO
namespace Go.Proofs.YtpkebokfbigggaaDoor.shapeOrders
open Go.RowKit Go.ChangeShapes Go.WideShapes Go.ChangeAt
open Go.ChangeMaps (open_string shut_string)
theorem laidOut : laidOutB Tryd.prog = true := by kernel_rfl
/-- A slice of integers that came in. -/
def IsRow (k : IntKind) (w : World) (a : Option Addr) (len cap : Nat) (zs : List Int) : Prop :=
  (a = none ∧ len = 0 ∧ cap = 0 ∧ zs = []) ∨ ∃ x, a = some x ∧ len ≤ cap ∧ cap ≤ maxLen ∧ zs.length = cap ∧ (∀ i, i < zs.length → w.cell? (x.add i) = some (.int k (zs.getD i 0))) ∧ ∀ n ∈ zs, (Lit.int k n).wf = true
/-- A slice of bools that came in. -/
def IsRowB (w : World) (a : Option Addr) (len cap : Nat) (B : Nat → Bool) : Prop :=
  (a = none ∧ len = 0 ∧ cap = 0) ∨ ∃ x, a = some x ∧ len ≤ cap ∧ cap ≤ maxLen ∧ ∀ i, i < cap → w.cell? (x.add i) = some (.bool (B i))
open Shp
open Classical
set_option maxHeartbeats 20000000 in
set_option maxRecDepth 100000 in
theorem walk (a0 : Option Addr) (len0 cap0 : Nat) (z0 : List (List Int)) (a1 : Int) (w1 : (Lit.int .i64 a1).wf = true) (w : World) (w0 : z0.length = len0 ∧ Shp.GraphAt w (.slice a0 len0 cap0) z0) (hT : Shp.Tab w) : Calls Tryd.prog 5 #[.slice a0 len0 cap0, .int .i64 a1] w fun e w' => e = .returned (.bool true) ∧ Below w.heap.size w w' := by
  have HT0 := Lib.hid hT
  clear hT
  obtain ⟨hl0, hg⟩ := w0
  subst hl0
  have HG := Lib.hid hg
  have hgs := hg.small
  have hx1 := bounds_i64 w1
  have HGr := Lib.hid (great_any w _ z0 hg)
  simp only [maxLen] at hgs
  clear w1 hg
  by_cases hgb : greatB z0 = true ∨ a1 < 0 ∨ (z0.length : Int) ≤ a1
  · cases hgt : greatB z0
    case' true =>
      rw [hgt] at HGr
    case' false =>
      rw [hgt] at HGr
      have hd1 : ¬ a1 < 0 → (z0.length : Int) ≤ a1 := fun h => by
        rcases hgb with h1 | h1 | h1
        · rw [hgt] at h1; cases h1
        · omega
        · exact h1
      have hd2 : decide (a1 < 0) = false → decide ((z0.length : Int) ≤ a1) = true := fun h => decide_eq_true (hd1 (of_decide_eq_false h))
      have Hd1 := Lib.hid hd1
      clear hd1 hd2
    case' true =>
      clear hgb hgt
      go_enter Tryd.func5, Tryd.ntmps5
      go_wp2_with (first | (go_at_call 7; refine (HGr.out).mono ?_; rintro e w' ⟨rfl, rfl⟩) | (go_at_call 8; refine (awake_any _ HT0.out).mono ?_; rintro e w9 ⟨rfl, H9⟩))
      go_ret
      exact ⟨rfl, H9.out⟩
    case' false =>
      clear hgb hgt
      by_cases hn : a1 < 0
      · clear Hd1
        go_enter Tryd.func5, Tryd.ntmps5
        go_wp2_with (first | (go_at_call 7; refine (HGr.out).mono ?_; rintro e w' ⟨rfl, rfl⟩) | (go_at_call 8; refine (awake_any _ HT0.out).mono ?_; rintro e w9 ⟨rfl, H9⟩))
        go_ret
        exact ⟨rfl, H9.out⟩
      · have hp := Hd1.out hn
        have hn' : 0 ≤ a1 := by omega
        clear Hd1 hn
        go_enter Tryd.func5, Tryd.ntmps5
        go_wp2_with (first | (go_at_call 7; refine (HGr.out).mono ?_; rintro e w' ⟨rfl, rfl⟩) | (go_at_call 8; refine (awake_any _ HT0.out).mono ?_; rintro e w9 ⟨rfl, H9⟩))
        go_ret
        exact ⟨rfl, H9.out⟩
  obtain ⟨hgn, hfr⟩ := not_or.1 hgb
  have hgf : greatB z0 = false := by
    cases h : greatB z0
    · rfl
    · exact absurd h hgn
  obtain ⟨q, rfl⟩ : ∃ q : Nat, a1 = q := ⟨a1.toNat, by omega⟩
  have hq : q < z0.length := by omega
  have hq2 : (q : Int) < (z0.length : Int) := by omega
  have hq3 : decide ((z0.length : Int) ≤ (q : Int)) = false := decide_eq_false (by omega)
  rw [hgf] at HGr
  have hl30 := great_small hgf
  have hl2000 : z0.length ≤ 2000 := by omega
  have Lr := Lib.hid (reachL_len (g := z0) (q : Int))
  have HC := Lib.hid (sorder_any w _ z0 q HG.out hl30 HT0.out)
  have HC2 := Lib.hid (fun W (hk : Kept w W) => sreach_any W _ z0 q (HG.out.kept hk) hl30 (HT0.out.kept hk))
  have HC3 := Lib.hid (fun W (hk : Kept w W) => sheads_any W _ z0 q (HG.out.kept hk) hl30 (HT0.out.kept hk))
  have HC4 := Lib.hid (fun W (hk : Kept w W) => sreducible_any W _ z0 q (HG.out.kept hk) hl30 (HT0.out.kept hk))
  clear hgb hgn hgf hfr
  cases hred : redB z0 (q : Int)
  case' false =>
    rw [hred] at HC4
    rw [orderL_no hred] at HC
    clear hred
    go_enter Tryd.func5, Tryd.ntmps5
    go_upto_region 5 with (first | (go_at_call 7; refine (HGr.out).mono ?_; rintro e w' ⟨rfl, rfl⟩) | (go_at_call 21; refine (HC.out).mono ?_; rintro e w1 ⟨vo, rfl, H1⟩) | (go_at_call 10; refine (HC2.out _ H1.out.1).mono ?_; rintro e w2 ⟨vr, rfl, H2⟩; have K2 := Lib.hid (H1.out.1.trans H2.out.1)) | (go_at_call 17; refine (HC3.out _ K2.out).mono ?_; rintro e w3 ⟨vh, rfl, H3⟩; have K3 := Lib.hid (K2.out.trans H3.out.1)) | (go_at_call 19; refine (HC4.out _ K3.out).mono ?_; rintro e w4 ⟨rfl, H4⟩))
    obtain ⟨oa, oc, e⟩ := own_form H1.out.2
    subst e
    simp only [List.length_nil]
    have K4 := Lib.hid (K3.out.trans H4.out)
    clear H1 H2 H3 H4 HC HC2 HC3 HC4
    go_wp2_with (go_at_call 8; refine (awake_any _ (HT0.out.kept K4.out)).mono ?_; rintro e w9 ⟨rfl, H9⟩)
    go_ret
    exact ⟨rfl, K4.out.trans H9.out⟩
  case' true =>
    rw [hred] at HC4
    rw [orderL_yes hred] at HC
    have Hred := Lib.hid hred
    have hgd := ordL_good (g := z0) (q : Int)
    have hlen : (ordL z0 (q : Int)).length = cntR z0 (q : Int) := of_decide_eq_true hred
    have Hlen := Lib.hid hlen
    obtain ⟨l1, hl1⟩ := ordL_first (g := z0) (f := (q : Int)) (by omega) (by rw [toNat_nat]; exact hq)
    have Hl1 := Lib.hid hl1
    have hol := ordL_le (g := z0) (f := (q : Int))
    have hcl : cntR z0 (q : Int) ≤ 2000 := Nat.le_trans (cntU_le (g := z0) (f := (q : Int)) z0.length) hl2000
    have hmem : ∀ x, x ∈ ordL z0 (q : Int) ↔ ReI z0 (q : Int) x := fun x => ⟨hgd.re x, fun h => hgd.full hlen h⟩
    have Hmem := Lib.hid hmem
    have Hgd := Lib.hid hgd
    have Hbh := Lib.hid (fun (a b : Nat) (h1 : Re z0 (q : Int).toNat a) (h2 : edge z0 a b) h3 => behind_head (g := z0) (f := (q : Int)) (by omega) hred h1 h2 h3)
    clear hred hgd hl1 hmem hlen
    generalize hdl : ordL z0 (q : Int) = dl at *
    clear hdl
    rw [List.length_map, map_vn] at HC
    have hmk := made_ints z0.length (by omega)
    go_enter Tryd.func5, Tryd.ntmps5
    go_upto_region 6 with (first | (go_at_call 7; refine (HGr.out).mono ?_; rintro e w' ⟨rfl, rfl⟩) | (go_at_call 21; refine (HC.out).mono ?_; rintro e w1 ⟨vo, rfl, H1⟩) | (go_at_call 10; refine (HC2.out _ H1.out.1).mono ?_; rintro e w2 ⟨vr, rfl, H2⟩; have K2 := Lib.hid (H1.out.1.trans H2.out.1)) | (go_at_call 17; refine (HC3.out _ K2.out).mono ?_; rintro e w3 ⟨vh, rfl, H3⟩; have K3 := Lib.hid (K2.out.trans H3.out.1)) | (go_at_call 19; refine (HC4.out _ K3.out).mono ?_; rintro e w4 ⟨rfl, H4⟩))
    have K4 := Lib.hid (K3.out.trans H4.out)
    have HO := Lib.hid (own_list2 (f := vn) (l := dl) (own_kept (own_kept (own_kept H1.out.2 H2.out.1) H3.out.1) H4.out) rfl)
    have HR := Lib.hid (own_list2 (f := vb) (own_kept (own_kept H2.out.2 H3.out.1) H4.out) Lr.out)
    have HH := Lib.hid (own_list2 (f := vi) (own_kept H3.out.2 H4.out) rfl)
    clear H1 H2 H3 H4 HC HC2 HC3 HC4
    obtain ⟨oa, oc, e⟩ := HO.out.form
    subst e
    obtain ⟨ra, rc, e⟩ := HR.out.form
    rw [Lr.out] at e
    subst e
    obtain ⟨ha, hc, e⟩ := HH.out.form
    subst e
    have HM := Lib.hid (own_made (f := vi) w4 0 z0.length (by omega) 3)
    rw [← minF_zero] at HM
    go_wp2
    have hM' : (w4.alloc (.cells (madeCells #[.int .i64 0] z0.length) 3)).ownsRow w4.heap.size 3 1 (.slice (some ⟨w4.heap.size, 0, none⟩) z0.length z0.length) z0.length ((minF z0.length 0).map vi) := HM.out
    have hst : Hid (Kept w4 (w4.alloc (.cells (madeCells #[.int .i64 0] z0.length) 3)) ∧ (w4.alloc (.cells (madeCells #[.int .i64 0] z0.length) 3)).ownsRow w4.heap.size 3 1 (.slice (some ⟨w4.heap.size, 0, none⟩) z0.length z0.length) z0.length ((minF z0.length 0).map vi)) := Lib.hid ⟨(Kept.refl w4).alloc _, hM'⟩
    clear HM hM' hmk
    generalize w4.alloc (.cells (madeCells #[.int .i64 0] z0.length) 3) = W0 at *
    go_loopg [9] (z0.length) (fun m i wz => ∃ k : Nat, m = z0.length - k ∧ k ≤ z0.length ∧ i = .int .i64 (k : Int) ∧ Hid (Kept w4 wz ∧ wz.ownsRow w4.heap.size 3 1 (.slice (some ⟨w4.heap.size, 0, none⟩) z0.length z0.length) z0.length ((minF z0.length k).map vi)))
    case atStart => exact ⟨0, by omega, by omega, rfl, hst⟩
    case round =>
      clear hst
      obtain ⟨k, rfl, hk, rfl, HK⟩ := hrel
      by_cases hlt : k < z0.length
      · obtain ⟨go, e1, h1, h2, h3, c1, c2⟩ := own_at HK.out.2 (j := k) (by simp [minF]; exact hlt)
        injection e1 with e1
        injection e1 with e1
        subst e1
        have HN := Lib.hid (And.intro (HK.out.1.setCell (p := ⟨w4.heap.size, k, none⟩) (Nat.le_refl _) (.int .i64 (-1))) (own_set (j := k) HK.out.2 (.int .i64 (-1))))
        clear HK h3
        generalize ((minF z0.length k).map vi)[k]'(by simp [minF]; exact hlt) = z at *
        go_wp2
        go_roundg (z0.length - (k + 1))
        case measure => omega
        case rel => exact ⟨k + 1, rfl, by omega, by simp, Lib.hid ⟨HN.out.1, by rw [← minF_set, List.map_set]; exact HN.out.2⟩⟩
      obtain rfl : k = z0.length := by omega
      have hst : Hid (Kept w4 wr ∧ wr.ownsRow w4.heap.size 3 1 (.slice (some ⟨w4.heap.size, 0, none⟩) z0.length z0.length) z0.length ((atF z0.length dl 0).map vi)) := Lib.hid ⟨HK.out.1, by rw [← atF_zero]; exact HK.out.2⟩
      clear hlt HK
      go_wp2
      go_loopg [10] (dl.length) (fun m i wz => ∃ k : Nat, m = dl.length - k ∧ k ≤ dl.length ∧ i = .int .i64 (k : Int) ∧ Hid (Kept w4 wz ∧ wz.ownsRow w4.heap.size 3 1 (.slice (some ⟨w4.heap.size, 0, none⟩) z0.length z0.length) z0.length ((atF z0.length dl k).map vi)))
      case atStart => exact ⟨0, by omega, by omega, rfl, hst⟩
      case round =>
        clear hst
        rename World => w5
        obtain ⟨k, rfl, hk, rfl, HK⟩ := hrel
        by_cases hlt : k < dl.length
        · obtain ⟨xo, rfl, p1, p2, c1⟩ := (HO.out.kept HK.out.1).at hlt
          have hyn := (Hgd.out.re _ (List.getElem_mem hlt)).2.lt
          have hat := atF_new (n := z0.length) Hgd.out.nd hlt (by rw [atF_len]; exact hyn)
          have HS := Lib.hid (atF_set (n := z0.length) Hgd.out.nd hlt)
          simp only [maxLen] at p2
          simp only [vn] at c1
          generalize dl[k] = y at *
          obtain ⟨go, e, -, -, -, h3, c2, f2⟩ := num_at HK.out.2 (b := y) (by rw [atF_len]; exact hyn)
          injection e with e
          injection e with e
          subst e
          rw [hat] at c2
          have HN := Lib.hid (And.intro (HK.out.1.setCell (p := ⟨w4.heap.size, y, none⟩) (Nat.le_refl _) (.int .i64 (k : Int))) (own_set (j := y) HK.out.2 (.int .i64 (k : Int))))
          have hy1 : decide ((z0.length : Int) ≤ (y : Int)) = false := decide_eq_false (by omega)
          have hy2 : decide (z0.length ≤ y) = false := decide_eq_false (by omega)
          clear HK hat h3
          go_wp2
          go_roundg (dl.length - (k + 1))
          case measure => omega
          case rel => exact ⟨k + 1, rfl, by omega, by simp, Lib.hid ⟨HN.out.1, by rw [← HS.out, List.map_set]; exact HN.out.2⟩⟩
        obtain rfl : k = dl.length := by omega
        have HA := Lib.hid HK.out.2
        have K5 := Lib.hid HK.out.1
        clear hlt HK
        have hrn : ((z0.length : Int) != (z0.length : Int)) = false := by simp
        go_wp2
        go_loopg [11] (z0.length) (fun m i wz => ∃ k : Nat, m = z0.length - k ∧ k ≤ z0.length ∧ i = .int .i64 (k : Int) ∧ Hid (Kept w5 wz))
        case atStart => exact ⟨0, by omega, by omega, rfl, Lib.hid (Kept.refl _)⟩
        case round =>
          rename World => w6
          obtain ⟨a, rfl, ha, rfl, HK⟩ := hrel
          by_cases hlt : a < z0.length
          case neg =>
            obtain rfl : a = z0.length := by omega
            obtain ⟨xo, e, p1, p2, c1⟩ := (HO.out.kept (K5.out.trans HK.out)).at (j := 0) (by rw [Hl1.out]; simp)
            have e0 : (dl[0]'(by rw [Hl1.out]; simp)) = q := by
              have : ∀ (l : List Nat) (h : 0 < l.length), l = (q : Int).toNat :: l1 → l[0] = q := by
                intro l h e; subst e; simp
              exact this dl _ Hl1.out
            rw [e0] at c1
            have hdl0 : 0 < dl.length := by rw [Hl1.out]; simp
            have hdl1 : (0 : Int) < (dl.length : Int) := by omega
            have hqq : ((q : Int) == (q : Int)) = true := by simp
            subst e
            simp only [maxLen] at p2
            simp only [vn] at c1
            have c1' : w6.cell? xo = some (.int .i64 (q : Int)) := by rw [addr_zero] at c1; exact c1
            clear e0 hlt c1
            go_wp2_with (go_at_call 8; refine (awake_any _ (HT0.out.kept ((K4.out.trans K5.out).trans HK.out))).mono ?_; rintro e w9 ⟨rfl, H9⟩)
            go_ret
            exact ⟨rfl, ((K4.out.trans K5.out).trans HK.out).trans H9.out⟩
          have HAt := Lib.hid (fun W (hk : Kept w5 W) b (hb : b < z0.length) => show W.cell? ⟨w4.heap.size, b, none⟩ = some (.int .i64 (if b ∈ dl then ((dl.idxOf b : Nat) : Int) else -1)) from by
            obtain ⟨go, e, _, _, _, _, c, _⟩ := num_at (own_kept HA.out hk) (b := b) (by rw [atF_len]; exact hb)
            injection e with e
            injection e with e
            subst e
            rw [atF_end] at c
            exact c)
          obtain ⟨xr, rfl, p3, p4, c2⟩ := (HR.out.kept (K5.out.trans HK.out)).at (j := a) (by rw [Lr.out]; exact hlt)
          rw [reachL_at] at c2
          rw [Lr.out] at p3
          simp only [maxLen] at p4
          simp only [vb] at c2
          have c1 := HAt.out w6 HK.out a hlt
          obtain ⟨xg, b1, d1, rfl, r1, r2, cg, hrow, hwf⟩ := (HG.out.kept ((K4.out.trans K5.out).trans HK.out)).at hlt
          have hrl := hrow.small
          simp only [maxLen] at r2 hrl
          by_cases hre : ReI z0 (q : Int) a
          case neg =>
            rw [decide_eq_false hre] at c2
            rw [if_neg (fun h => hre ((Hmem.out a).1 h))] at c1
            clear hre hrow hwf HAt
            go_upto_region 20 with fail
            go_quiet (fail)
            have HK2 := Lib.hid (HK.out.drewN nq)
            clear HK c1
            have c2' : (w6.drewN nq).cell? (xr.add a) = some (.bool false) := c2
            have cg' : (w6.drewN nq).cell? (xg.add a) = some (.slice b1 (row z0 a).length d1) := cg
            clear c2 cg
            generalize w6.drewN nq = w7 at *
            go_wp2
            go_loopg [12] (0) (fun m i wz => m = 0 ∧ i = .int .i64 0 ∧ w7 = wz)
            case atStart => exact ⟨rfl, rfl, rfl⟩
            case round =>
              obtain ⟨rfl, rfl, rfl⟩ := hrel
              by_cases hz : (0 : Int) < ((row z0 a).length : Int)
              · go_wp2
                go_roundg (z0.length - (a + 1))
                case measure => omega
                case rel => exact ⟨a + 1, rfl, by omega, by simp, HK2⟩
              · have hzd : decide ((0 : Int) < ((row z0 a).length : Int)) = false := decide_eq_false hz
                have hzd2 : decide (0 < (row z0 a).length) = false := decide_eq_false (by omega)
                go_wp2
                go_roundg (z0.length - (a + 1))
                case measure => omega
                case rel => exact ⟨a + 1, rfl, by omega, by simp, HK2⟩
          rw [decide_eq_true hre] at c2
          rw [if_pos ((Hmem.out a).2 hre)] at c1
          have Hre := Lib.hid hre
          obtain ⟨pa, hpa⟩ : ∃ pa : Nat, dl.idxOf a = pa := ⟨_, rfl⟩
          rw [hpa] at c1
          have Hpa := Lib.hid hpa
          have hpl : pa ≤ dl.length := by rw [← hpa]; exact List.idxOf_le_length
          clear hre hrow hwf hpa
          go_upto_region 20 with fail
          go_quiet (fail)
          have HK2 := Lib.hid (HK.out.drewN nq)
          have HRc := Lib.hid (fun W (hk : Kept w5 W) => show W.cell? (xr.add a) = some (.bool true) from by
            obtain ⟨xr', e, _, _, c⟩ := (HR.out.kept (K5.out.trans hk)).at (j := a) (by rw [Lr.out]; exact hlt)
            injection e with e
            subst e
            rw [reachL_at, decide_eq_true Hre.out] at c
            exact c)
          clear c1 c2 cg HK
          generalize w6.drewN nq = w7 at *
          go_wp2
          go_loopg [12] ((row z0 a).length) (fun m i wz => ∃ k : Nat, m = (row z0 a).length - k ∧ k ≤ (row z0 a).length ∧ i = .int .i64 (k : Int) ∧ Hid (Kept w5 wz))
          case atStart => exact ⟨0, by omega, by omega, rfl, HK2⟩
          case round =>
            clear HK2
            rename World => w8
            obtain ⟨k, rfl, hk, rfl, HK⟩ := hrel
            have c2 := HRc.out w8 HK.out
            obtain ⟨xg', b2, d2, e, r3, r4, cg, hrow, hwf⟩ := (HG.out.kept ((K4.out.trans K5.out).trans HK.out)).at hlt
            injection e with e
            subst e
            by_cases hkl : k < (row z0 a).length
            case neg =>
              obtain rfl : k = (row z0 a).length := by omega
              have hd2 : decide ((row z0 a).length < (row z0 a).length) = false := decide_eq_false (by omega)
              clear hrow hwf hkl
              go_wp2
              go_roundg (z0.length - (a + 1))
              case measure => omega
              case rel => exact ⟨a + 1, rfl, by omega, by simp, HK⟩
            obtain ⟨x2, rfl, q1, q2, c3⟩ := hrow.at hkl
            obtain ⟨z1, z2⟩ := hwf.at hkl
            have hzm : (row z0 a)[k] ∈ row z0 a := List.getElem_mem hkl
            have Hzm := Lib.hid hzm
            simp only [maxLen] at q2
            simp only [vi] at c3
            clear hrow hwf hzm
            generalize (row z0 a)[k] = z at *
            by_cases hz : z < 0
            · clear HG HR HO HAt HRc Hmem Hgd Hbh HA Hzm Hlen Hl1 Hred Hre Hpa HGr Lr HH
              go_wp2
              go_quiet (fail)
              go_wp2
              go_roundg ((row z0 a).length - (k + 1))
              case measure => omega
              case rel => exact ⟨k + 1, rfl, by omega, by simp, Lib.hid (HK.out.drewN _)⟩
            by_cases hzn : (z0.length : Int) ≤ z
            · have hzA : decide (z < 0) = false := decide_eq_false hz
              have hzB : decide ((z0.length : Int) ≤ z) = true := decide_eq_true hzn
              clear HG HR HO HAt HRc Hmem Hgd Hbh HA Hzm Hlen Hl1 Hred Hre Hpa HGr Lr HH
              go_wp2
              go_quiet (fail)
              go_wp2
              go_roundg ((row z0 a).length - (k + 1))
              case measure => omega
              case rel => exact ⟨k + 1, rfl, by omega, by simp, Lib.hid (HK.out.drewN _)⟩
            obtain ⟨b, rfl⟩ : ∃ b : Nat, z = b := ⟨z.toNat, by omega⟩
            have hbl : b < z0.length := by omega
            have hedge : edge z0 a b := ⟨hlt, hbl, Hzm.out⟩
            have hreb : ReI z0 (q : Int) b := ⟨Hre.out.1, .step Hre.out.2 hedge not_false⟩
            have cb := HAt.out w8 HK.out b hbl
            have ca := HAt.out w8 HK.out a hlt
            rw [if_pos ((Hmem.out b).2 hreb)] at cb
            rw [if_pos ((Hmem.out a).2 Hre.out), Hpa.out] at ca
            have HX := Lib.hid (fun h => Hbh.out a b Hre.out.2 hedge h)
            rw [Hpa.out] at HX
            clear hz hzn hedge hreb
            clear HG HR HO HAt HRc Hmem Hgd Hbh HA Hzm Hlen Hl1 Hred Hre Hpa HGr Lr
            generalize dl.idxOf b = pb at *
            have hzn1 : decide ((z0.length : Int) ≤ (b : Int)) = false := decide_eq_false (by omega)
            have hzn2 : decide (z0.length ≤ b) = false := decide_eq_false (by omega)
            by_cases hpp : pa < pb
            · have hpp1 : decide (pa < pb) = true := decide_eq_true hpp
              go_wp2
              go_quiet (fail)
              go_wp2
              go_roundg ((row z0 a).length - (k + 1))
              case measure => omega
              case rel => exact ⟨k + 1, rfl, by omega, by simp, Lib.hid (HK.out.drewN _)⟩
            · have hpp1 : decide (pa < pb) = false := decide_eq_false hpp
              have Hh := Lib.hid (HX.out (by omega))
              clear HX
              go_wp2
              go_quiet (fail)
              have hst : Hid (Kept w5 (w8.drewN nq)) := Lib.hid (HK.out.drewN _)
              have hd0 : Hid (decide ((b : Int) ∈ (headL z0 (q : Int)).take 0) = false) := Lib.hid (decide_eq_false (by simp))
              have hhs := HH.out.small
              simp only [maxLen] at hhs
              have Hm := Lib.hid (decide_eq_true (mem_headL.2 Hh.out))
              clear HK ca cb c2 c3 cg hpp hpp1 Hh
              generalize w8.drewN nq = w9 at *
              go_wp2
              go_loopg [14, 15] ((headL z0 (q : Int)).length) (fun m h i wz => ∃ k : Nat, m = (headL z0 (q : Int)).length - k ∧ k ≤ (headL z0 (q : Int)).length ∧ i = .int .i64 (k : Int) ∧ h = .bool (decide ((b : Int) ∈ (headL z0 (q : Int)).take k)) ∧ w9 = wz)
              case atStart => exact ⟨0, by omega, by omega, rfl, by rw [hd0.out], rfl⟩
              case round =>
                clear hd0
                obtain ⟨i, rfl, hi, rfl, rfl, rfl⟩ := hrel
                by_cases hil : i < (headL z0 (q : Int)).length
                case neg =>
                  obtain rfl : i = (headL z0 (q : Int)).length := by omega
                  rw [List.take_of_length_le (Nat.le_refl _), Hm.out]
                  clear hil
                  go_wp2
                  go_roundg ((row z0 a).length - (k + 1))
                  case measure => omega
                  case rel => exact ⟨k + 1, rfl, by omega, by simp, hst⟩
                obtain ⟨xh, rfl, h1, h2, c5⟩ := (HH.out.kept (K5.out.trans hst.out)).at hil
                have HT := Lib.hid (mem_take (b := (b : Int)) hil)
                simp only [maxLen] at h2
                simp only [vi] at c5
                generalize (headL z0 (q : Int))[i] = u at *
                cases hmb : decide ((b : Int) ∈ (headL z0 (q : Int)).take i)
                case' true =>
                  rw [hmb] at HT
                  clear hmb
                  go_wp2
                  go_roundg ((headL z0 (q : Int)).length - (i + 1))
                  case measure => omega
                  case rel => exact ⟨i + 1, rfl, by omega, by simp, by rw [HT.out]; rfl, rfl⟩
                case' false =>
                  rw [hmb] at HT
                  clear hmb
                  obtain ⟨ub, hub⟩ : ∃ ub, decide (u = (b : Int)) = ub := ⟨_, rfl⟩
                  have hub2 : (u == (b : Int)) = ub := by rw [← hub]; rfl
                  rw [hub] at HT
                  clear hub
                  cases ub
                  all_goals
                    go_wp2
                    go_roundg ((headL z0 (q : Int)).length - (i + 1))
                    case measure => omega
                    case rel => exact ⟨i + 1, rfl, by omega, by simp, by rw [HT.out]; rfl, rfl⟩

set_option maxRecDepth 100000 in
theorem lifted (os : Os) (started : os.Started) (H : Type) (enc : TypeId × Value → H) :
    ReturnsInHanded {} Tryd.checked os 5 .any (fun w args => (Rows.shapeOrdersSpec.pre enc Tryd.prog Tryd.f5 [] false w args ∧ laidMetH Tryd.prog Shp.laid1 w) ∧ sizedMet enc Tryd.prog Tryd.f5 (OpenSpec.ofChange Rows.shapeOrdersSpec) false w args)
      (Rows.shapeOrdersSpec.post enc Tryd.prog Tryd.f5 false true false false) := by
  refine returnsInHanded_of_change_and (C := Tryd.checked) (X := fun w _ => laidMetH Tryd.prog Shp.laid1 w) (fun _ _ _ hh h => h.of_heap hh) Shp.own started (by kernel_rfl) Tryd.func5
    (ChangeSpec.witness_shaped (enc := enc) (C := Tryd.checked) (os := os) (X := fun w _ => laidMetH Tryd.prog Shp.laid1 w) false (World.doorLaid Tryd.prog 400 os) #[.slice none 0 0, .int .i64 0] 8 rfl (World.shaped_of_RefB (by kernel_rfl) (by kernel_rfl)) (by kernel_rfl) (by kernel_rfl) (by kernel_rfl) (Shp.door_met os _)) ?_
  intro W base args ds gs before hval0 hW _ _ hL _
  have hval : ∀ (j : Nat) t v, Tryd.f5.params[j]? = some t → args[j]? = some v → Value.okWide Tryd.prog W .any base t v := hval0
  have hW' := hW
  obtain ⟨p, q, hA0, hV, rfl, hfz, hnd⟩ := hW
  have hA : DataW.TrodAll enc Tryd.prog W 0 (fun _ => true) true Tryd.f5.params.toList args.toList ds p := hA0
  rw [Tryd.params5] at hA hval
  obtain ⟨v0, vs0, d0, ds0, p0, q0, hargs, rfl, rfl, h0, r0⟩ := trodAll_cons hA
  obtain ⟨v1, vs1, d1, ds1, p1, q1, rfl, rfl, rfl, h1, r1⟩ := trodAll_cons r0
  obtain ⟨rfl, rfl, rfl⟩ := trodAll_nil r1
  obtain rfl : args = #[v0, v1] := by cases args; simp_all
  obtain ⟨rfl, rfl⟩ := trodVars_none hV
  obtain ⟨a0, len0, cap0, rfl⟩ := okWide_slice Tryd.underlying22 (hval 0 22 v0 rfl rfl)
  have k0 := h0
  have lt0 : ∀ x ∈ p0, x.block < W.heap.size := by obtain ⟨m, hm⟩ := k0; exact DataW.trod_lt m _ _ _ hm
  obtain ⟨z0, w0⟩ : ∃ g : Shp.Gr, g.length = len0 ∧ Shp.GraphAt W (.slice a0 len0 cap0) g := by
    obtain ⟨fuel, hf⟩ := h0
    exact Shp.open_graph Tryd.underlying22 Tryd.underlying23 Tryd.underlying3 (by kernel_rfl) (by kernel_rfl) (by simpa [Value.cells] using hf)
  obtain ⟨a1, rfl, rfl, rfl, w1⟩ := open_int Tryd.underlying3 (hval 1 3 v1 rfl rfl) h1
  have hTab := Shp.of_laid hL
  clear hA0 hval0
  refine (walk a0 len0 cap0 z0 a1 w1 W w0 hTab).mono fun e W' ⟨he, hg⟩ => ?_
  subst he
  have bel : Below W.heap.size W W' := hg
  exact ⟨_, rfl, _, _, _, [], _, [], hW', trodAll_mk1 (shut_bool Tryd.underlying4 _), (trodAll_cons_mk (Below.trod laidOut (by kernel_rfl) (of_decide_eq_true (by kernel_rfl)) k0 bel lt0) (trodAll_cons_mk (shut_int Tryd.underlying3 w1) trodAll_mk0)), rfl, bel.frame _, fun h => by cases h⟩

theorem over : Rows.shapeOrdersRow.holds Tryd.pinned (OpenSpec.ofChange Rows.shapeOrdersSpec) :=
  OpenClaim.holds_of_wide 5 Tryd.f5 rfl rfl rfl rfl rfl rfl rfl ⟨rfl, rfl, rfl, rfl, rfl⟩ rfl rfl rfl rfl rfl (by kernel_rfl) Tryd.func5 (by kernel_rfl)
    (of_decide_eq_true (by kernel_rfl)) (by unfold Func.isWrapper; first | (rw [if_pos (by decide +kernel)]; kernel_rfl) | (rw [if_neg (by decide +kernel)]; exact ⟨rfl, rfl⟩))
    (fun os started H enc _ => lifted os started H enc)

/-- THE STATEMENT. -/
theorem proved : Rows.ShapeOrdersCardSaid :=
  Claim7.holds_tied_plain_at .later [] [.data] true (true, "8e7315473c9697215e2e1a16c82e7f3df319d5ca6ceefee2e44519cea163f4a1") false
    over (fun _ h => by cases h) (by kernel_rfl) (fun _ h => by cases h) shapeOrders_row_tie rfl ⟨rfl, rfl⟩ (by kernel_rfl) rfl
    (fun f fn hf hfn => by
      obtain rfl : f = 5 := Option.some.inj ((show Tryd.prog.funcNamed "calliper/calliperlaw12.ShapeOrders" = some 5 by kernel_rfl).symm.trans hf) |>.symm
      obtain rfl : fn = Tryd.f5 := (Option.some.inj (Tryd.func5.symm.trans hfn)).symm
      exact ⟨by kernel_rfl, fun j t ht => by
        rw [Tryd.params5] at ht
        have hm : t ∈ [22, 3] := by simpa using Array.mem_of_getElem? ht
        have hall : ([22, 3].all fun u => !Tryd.prog.wantsStandIn u) = true := by kernel_rfl
        exact (show Tryd.prog.wantsStandIn t = false by simpa using List.all_eq_true.1 hall t hm)⟩)
    (by kernel_rfl)
#print axioms proved
end Go.Proofs.YtpkebokfbigggaaDoor.shapeOrders
