/-
  Proved: the statement 'WatchStopsSaid' of the seat: for every input that law returns true, and each argument reads afterwards as it read before. No condition of ours.
  The frame follows the guide's shell; the walk and the contracts that it uses are ours.
-/
import Derived.Test.YthjnkjekidagiaaRows
import Derived.WalkKit
import Derived.ProofKit
import Derived.OpenShut
import Derived.Test.YthjnkjekidagiaaBase
import Derived.Test.YthjnkjekidagiaaOpen
import Derived.Test.YthjnkjekidagiaaStWch
import Derived.Deep.CutBlock
import Derived.Deep.CutRange
import Derived.ShutString
import Derived.ChangeOld
import Derived.Below
namespace Go.Proofs.Ythjnkjekidagiaa.watchStops
open Go.ChangeShapes Go.WideShapes Go.ChangeAt Go.RowKit
open Go.ChangeMaps (open_string shut_string)
set_option linter.unusedVariables false

theorem own : ownKnob Try.prog.godebug = none := by kernel_rfl
theorem laidOut : laidOutB Try.prog = true := by kernel_rfl

open Evl
open Wch
open Mem (box_cell own_chg Chg)

/-- What the row of bools says of one of them. -/
theorem bool_at {w : World} {a0 : Option Addr} {len0 cap0 : Nat} {z0 : Nat → Bool} (h : IsBools w a0 len0 cap0 z0) (i : Nat) (hi : i < len0) : ∃ x, a0 = some x ∧ len0 ≤ cap0 ∧ cap0 ≤ maxLen ∧ w.cell? (x.add i) = some (.bool (z0 i)) ∧ (x.add i).block < w.heap.size := by
  rcases h with ⟨_, h, _⟩ | ⟨x, h1, h2, h3, h4⟩
  · omega
  · refine ⟨x, h1, h2, h3, h4 i hi, ?_⟩
    have h7 := h4 i hi
    unfold World.cell? at h7
    by_cases hb : (x.add i).block < w.heap.size
    · exact hb
    · rw [Array.getElem?_eq_none (by omega)] at h7; simp at h7
theorem clause_info : (Try.prog.info? 43).map (fun i => (i.zero, i.size, i.bytes)) = some (some (.agg #[.int .i64 0, .slice none 0 0]), 2, 32) := by kernel_rfl

/-! The walk: the Go text returns true and writes nothing that was there. -/
set_option maxRecDepth 100000 in
set_option maxHeartbeats 4000000 in
theorem walk (a0 : Option Addr) (len0 cap0 : Nat) (z0 : Nat → Bool) (w : World) (w0 : IsBools w a0 len0 cap0 z0) :
    Calls Try.prog 5 #[.slice a0 len0 cap0] w fun e w' => e = .returned (.bool true) ∧ Below w.heap.size w w' := by
  have HR := Lib.hid w0
  clear w0
  by_cases hn2 : 30 < len0
  · go_enter Try.func5, Try.ntmps5
    go_wp2_with (first | (go_at_call 6; refine (awake_any _).mono ?_; rintro e w4 ⟨rfl, H4⟩))
    go_ret
    exact ⟨rfl, H4.out⟩
  have hn3 : len0 ≤ 30 := by omega
  clear hn2
  obtain ⟨i0, hi, hz0, hz1, hz2⟩ := info_parts clause_info
  have Hi := Lib.hid (And.intro hi (And.intro hz0 (And.intro hz1 hz2)))
  clear hi hz0 hz1 hz2
  have HCY := Lib.hid (fun W => Rpr.Cond_ok (s := ⟨#[49, 32, 61, 61, 32, 49]⟩) W (by decide) cY_read)
  have HCN := Lib.hid (fun W => Rpr.Cond_ok (s := ⟨#[49, 32, 47, 32, 48, 32, 61, 61, 32, 49]⟩) W (by decide) cN_read)
  go_enter Try.func5, Try.ntmps5
  go_wp2_with fail
  go_loopw [3, 4, 5] (fun v wt i wz => ∃ (k : Nat), i = .int .i64 (k : Int) ∧ k ≤ len0 ∧ wt = .int .i64 ((wantL z0 len0 k : Nat) : Int) ∧ Hid (ClsOwn w.heap.size wz v (clsL z0 0 k) ∧ Kept w wz)) (fun _ _ i _ => len0 - (intOf i).toNat)
  case atStart => exact ⟨0, rfl, by omega, rfl, Lib.hid ⟨ClsOwn.nil _ _, Kept.refl w⟩⟩
  case round =>
    obtain ⟨k, rfl, hk, rfl, HM⟩ := hrel
    by_cases hlt : k < len0
    case pos =>
      obtain ⟨x, rfl, r1, r2, c0, hxs⟩ := bool_at HR.out k hlt
      have c0' : wr.cell? (x.add k) = some (.bool (z0 k)) := (World.cell?_of_block (HM.out.2.block _ hxs)).trans c0
      have HL := Lib.hid (clsL_snoc z0 0 k)
      have HW := Lib.hid (show wantL z0 len0 (k + 1) = if z0 k then wantL z0 len0 k else min (wantL z0 len0 k) (k + 1) from rfl)
      have hwt : wantL z0 len0 k ≤ 31 := by
        have : ∀ q, wantL z0 len0 q ≤ 30 := fun q => by
          induction q with
          | zero => unfold wantL; omega
          | succ q ih => unfold wantL; split <;> omega
        have := this k; omega
      simp only [maxLen] at r2
      rw [Nat.zero_add] at HL
      clear c0 hxs
      generalize wantL z0 len0 k = wt at *
      cases hz : z0 k
      case' true =>
        rw [hz] at c0' HL
        have HC := HCY
        clear HCN HCY
        have HX : Hid (wantL z0 len0 (k + 1) = wt) := Lib.hid (by rw [HW.out, hz]; rfl)
        have HZ : Hid (cZ true = cY) := Lib.hid rfl
      case' false =>
        rw [hz] at c0' HL
        have HC := HCN
        clear HCN HCY
        have HX : Hid (wantL z0 len0 (k + 1) = min wt (k + 1)) := Lib.hid (by rw [HW.out, hz]; rfl)
        have HZ : Hid (cZ false = cB 0) := Lib.hid rfl
      all_goals
        clear hz HW
        go_upto_region 13 with (go_at_call 16; refine (HC.out _).mono ?_; rintro e1 w1 ⟨cv, rfl, H1⟩)
        have hcv := conds_at H1.out.2 (show 1 ≤ 8193 by decide) (by rw [← HZ.out]; exact cZ_small _)
        have HM1 := Lib.hid (And.intro (HM.out.1.kept H1.out.1) (HM.out.2.trans H1.out.1))
        have HCV := Lib.hid hcv
        obtain ⟨ca, cc, rfl⟩ := hcv.form
        obtain ⟨cs, ho, hcs⟩ := HM1.out.1
        rw [clsL_len] at ho
        obtain ⟨va, vc, rfl⟩ := own_form ho
        have HO := Lib.hid (And.intro ho hcs)
        have hs1 := HM1.out.2.size
        clear hcv ho hcs H1 HC HM
        go_wp2_with (at_builtin; refine wpList_append_lies _ rfl (.tmp 41) (.tmp 46) 38 rfl w.heap.size 43 i0 _ 2 32 Try.underlying38 Hi.out.1 Hi.out.2.1 Hi.out.2.2.1 Hi.out.2.2.2 rfl (by omega) (.slice va k vc) k cs rfl (HO.out.1.alloc _) ⟨w1.heap.size, 0, none⟩ 1 1 [.int .i64 (10 * (k : Int)), .slice ca 1 cc] rfl rfl (World.news_of_block (cs := #[.int .i64 (10 * (k : Int)), .slice ca 1 cc]) (heap_alloc_new w1 _)) (by simp [Value.oneCell']) (by omega) (by simp only [maxLen]; omega) (by omega) (by simp; omega) (w1.heap.size + 1) (by simp) ?_; intro g8 cap8 w8 hown hgrow hat hlt8; have HO8 := Lib.hid (And.intro hown hgrow); clear hown hgrow hat)
        refine ⟨⟨k + 1, by simp, by omega, ?_, Lib.hid ⟨?_, ?_⟩⟩, by simp [intOf]; omega⟩
        · rw [HX.out]
          all_goals (congr 1; omega)
        · rw [HL.out, HZ.out]
          exact ClsOwn.app (by rw [clsL_len]; exact HO.out.1) HO.out.2 HCV.out (by rw [clsL_len]; exact HO8.out.1) HO8.out.2
        · exact Below.grown (HM1.out.2.alloc _) HO8.out.2 (by simp; omega) (fun j hj => Mem.own_base HO.out.1 hj)
    obtain rfl : k = len0 := by omega
    obtain ⟨m, hm, hc, h3, h4⟩ := cls_form z0 0 k
    have hwant : wantL z0 k k = m := by
      rw [want_is (z := z0) hm (fun j hj => by have := h3 j hj; rwa [Nat.zero_add] at this) (fun h => by have := h4 h; rwa [Nat.zero_add] at this) k]
      split <;> omega
    rw [hwant]
    have HA := HM.out.1.at (by rw [clsL_len]; omega)
    obtain ⟨aa, ac, rfl⟩ := HA.form
    have HCl := Lib.hid (Clauses_any 4 HA (E := E0) (mv := .pointer none) (bv := .slice none 0 0) (ov := .pointer none) (obv := .slice none 0 0) ⟨.inl ⟨rfl, rfl⟩, binds_nil wr, .inl ⟨rfl, rfl⟩, binds_nil wr⟩ (clsL_down z0 0 k))
    rw [hc] at HCl
    unfold envVal at HCl
    simp only [E0] at HCl
    have KW := Lib.hid HM.out.2
    clear hc h3 h4 hwant HA HCY HCN
    go_upto_region 15 with (go_at_call 17; refine (HCl.out).mono ?_; rintro e5 w5 ⟨ev, rfl, H5⟩)
    have hk5 := H5.out.1
    have ho5 := H5.out.2
    have hlen := evL_len z0 0 m
    have HE := Lib.hid (fun (i : Nat) (hi : i < m) => ev_cells ho5 (i := i) (by rw [evL_len]; exact hi))
    obtain ⟨ea, ec, he⟩ := own_form ho5
    rw [evL_len] at he
    subst he
    have K5 := Lib.hid (KW.out.trans hk5)
    have HB := Lib.hid (fun (i : Nat) (hi : i < k) => bool_at HR.out i hi)
    clear HCl H5 hk5 ho5 HM KW hlt
    go_wp2_with fail
    go_loopw [12, 13] (fun al i wz => ∃ j n : Nat, i = .int .i64 (j : Int) ∧ j ≤ m ∧ al = .bool (allL z0 0 j) ∧ wz = w5.drewN n) (fun _ i _ => m - (intOf i).toNat)
    case atStart => exact ⟨0, 0, rfl, by omega, rfl, rfl⟩
    case round =>
      obtain ⟨j, n, rfl, hj, rfl, rfl⟩ := hrel
      by_cases hjm : j < m
      case pos =>
        obtain ⟨x, rfl, r1, r2, c0, hxs⟩ := HB.out j (by omega)
        obtain ⟨g, c, hev, e1, e2, d0, d1, d2, d4⟩ := HE.out j hjm
        injection hev with hev1 hev2 hev3
        subst hev1
        have hat := evL_at z0 0 m j hjm
        rw [hat] at d1 d4
        rw [Nat.zero_add] at d1 d4
        rw [evL_len] at e1
        have c1 : w5.cell? (x.add j) = some (.bool (z0 j)) := (World.cell?_of_block (K5.out.block _ hxs)).trans c0
        have HS := Lib.hid (allL_snoc z0 0 j)
        rw [Nat.zero_add] at HS
        simp only at d1 d4
        simp only [maxLen] at r2
        clear c0 hat HE hxs
        simp only [maxLen] at e2
        subst hev3
        clear hev2 HB hlen HR
        have hj30 : (j : Int) ≤ 30 := by omega
        have f1 : ((10 * (j : Int)) != (10 * (j : Int))) = false := by simp
        generalize allL z0 0 j = al at *
        cases hz : z0 j <;> cases al
        all_goals
          rw [hz] at c1 d4 HS
          simp only [Bool.and_true, Bool.and_false, if_true, if_false, Bool.false_eq_true] at d4 HS
          clear hz
          go_wp2
          go_quiet (fail)
          go_wp2
          exact ⟨⟨j + 1, n + nq, by simp, by omega, by rw [HS.out], rfl⟩, by simp [intOf]; omega⟩
      case neg =>
        obtain rfl : j = m := by omega
        go_wp2_with (first | (go_at_call 6; refine (awake_any _).mono ?_; rintro e w9 ⟨rfl, H9⟩))
        go_ret
        exact ⟨rfl, (K5.out.drewN _).trans H9.out⟩

set_option maxRecDepth 100000 in
theorem lifted (os : Os) (started : os.Started) (H : Type) (enc : TypeId × Value → H) :
    ReturnsInHanded {} Try.checked os 5 .any (Rows.watchStopsSpec.pre6 enc Try.prog Try.f5 Rows.watchStopsRow.domain false) (Rows.watchStopsSpec.post enc Try.prog Try.f5 false true false false) := by
  refine returnsInHanded_of_change (C := Try.checked) own started (by kernel_rfl) Try.func5
    (ChangeSpec.witness6 (enc := enc) (C := Try.checked) false ⟨#[], #[.slice none 0 0], []⟩ 8 (by kernel_rfl) (by kernel_rfl) (by kernel_rfl) (by kernel_rfl)) ?_
  intro W base args ds gs before hval0 hW hcnd _
  have hval : ∀ (j : Nat) t v, Try.f5.params[j]? = some t → args[j]? = some v → Value.okWide Try.prog W .any base t v := hval0
  have hW' := hW
  obtain ⟨p, q, hA0, hV, rfl, hfz, hnd⟩ := hW
  have hA : DataW.TrodAll enc Try.prog W 0 (fun _ => true) true Try.f5.params.toList args.toList ds p := hA0
  rw [Try.params5] at hA hval
  obtain ⟨v0, vs0, d0, ds0, p0, q0, hargs, rfl, rfl, h0, r0⟩ := trodAll_cons hA
  obtain ⟨rfl, rfl, rfl⟩ := trodAll_nil r0
  obtain rfl : args = #[v0] := by cases args; simp_all
  obtain ⟨rfl, rfl⟩ := trodVars_none hV
  obtain ⟨a0, len0, cap0, rfl⟩ := okWide_slice Try.underlying37 (hval 0 37 v0 rfl rfl)
  have k0 := h0
  have lt0 : ∀ x ∈ p0, x.block < W.heap.size := by obtain ⟨m, hm⟩ := k0; exact DataW.trod_lt m _ _ _ hm
  obtain ⟨z0, w0⟩ : ∃ zs, IsBools W a0 len0 cap0 zs := by
    obtain ⟨fuel, hf⟩ := h0
    exact open_boolrow Try.underlying37 Try.underlying4 (by kernel_rfl) (by simpa [Value.cells] using hf)
  clear hA0 hval0
  refine (walk a0 len0 cap0 z0 W w0).mono fun e W' ⟨he, bel⟩ => ?_
  subst he
  exact ⟨_, rfl, _, _, _, [], _, [], hW', trodAll_mk1 (shut_bool Try.underlying4 _), (trodAll_cons_mk (Below.trod laidOut (by kernel_rfl) (of_decide_eq_true (by kernel_rfl)) k0 bel lt0) trodAll_mk0), rfl, bel.frame _, fun h => by cases h⟩

theorem over : Rows.watchStopsRow.holds Try.pinned (OpenSpec.ofChange Rows.watchStopsSpec) :=
  OpenClaim.holds_of_wide 5 Try.f5 rfl rfl rfl rfl rfl rfl rfl ⟨rfl, rfl, rfl, rfl, rfl⟩ rfl rfl rfl rfl rfl (by kernel_rfl) Try.func5 (by kernel_rfl)
    (of_decide_eq_true (by kernel_rfl)) (by unfold Func.isWrapper; first | (rw [if_pos (by decide +kernel)]; kernel_rfl) | (rw [if_neg (by decide +kernel)]; exact ⟨rfl, rfl⟩))
    (fun os started H enc _ => lifted os started H enc)

/-- The statement. -/
theorem proved : Rows.WatchStopsSaid := over
#print axioms proved
end Go.Proofs.Ythjnkjekidagiaa.watchStops
