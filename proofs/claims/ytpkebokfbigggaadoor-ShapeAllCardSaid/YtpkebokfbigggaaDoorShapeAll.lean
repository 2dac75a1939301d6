/-
  Proved: the statement 'ShapeAllCardSaid' of the seat: for every input that law returns true, and each argument reads afterwards as it read before; the package variable that its row lists is tied to the program's text. No condition of ours.
-/
import Derived.Test.YtpkebokfbigggaaDoorRows
import Derived.Test.YtpkebokfbigggaaDoorTie
import Derived.Test.YtpkebokfbigggaaDoorCards
import Derived.Test.YtpkebokfbigggaaDoorShqR
import Derived.ChangeMaps5
import Derived.ChangeSlices
import Derived.ChangeOld
import Derived.Deep.Grids
import Derived.Test.YtpkebokfbigggaaDoorShpY
import Derived.Test.YtpkebokfbigggaaDoorShpO
namespace Go.Proofs.YtpkebokfbigggaaDoor.shapeAll
open Go.RowKit Go.ChangeShapes Go.WideShapes Go.ChangeAt
open Go.ChangeMaps (open_string shut_string)
theorem laidOut : laidOutB Tryd.prog = true := by kernel_rfl
/-- A slice of integers that came in. -/
def IsRow (k : IntKind) (w : World) (a : Option Addr) (len cap : Nat) (zs : List Int) : Prop :=
  (a = none ∧ len = 0 ∧ cap = 0 ∧ zs = []) ∨ ∃ x, a = some x ∧ len ≤ cap ∧ cap ≤ maxLen ∧ zs.length = cap ∧ (∀ i, i < zs.length → w.cell? (x.add i) = some (.int k (zs.getD i 0))) ∧ ∀ n ∈ zs, (Lit.int k n).wf = true
/-- A slice of bools that came in. -/
def IsRowB (w : World) (a : Option Addr) (len cap : Nat) (B : Nat → Bool) : Prop :=
  (a = none ∧ len = 0 ∧ cap = 0) ∨ ∃ x, a = some x ∧ len ≤ cap ∧ cap ≤ maxLen ∧ ∀ i, i < cap → w.cell? (x.add i) = some (.bool (B i))
open Shp
set_option maxHeartbeats 4000000 in
set_option maxRecDepth 100000 in
theorem walk (a0 : Option Addr) (len0 cap0 : Nat) (z0 : List (List Int)) (a1 : Int) (w1 : (Lit.int .i64 a1).wf = true) (a2 : Int) (w2 : (Lit.int .i64 a2).wf = true) (a3 : Int) (w3 : (Lit.int .i64 a3).wf = true) (a4 : Option Addr) (len4 cap4 : Nat) (z4 : List Int) (w : World) (w0 : z0.length = len0 ∧ Shp.GraphAt w (.slice a0 len0 cap0) z0) (w4 : IsRow .i64 w a4 len4 cap4 z4) (hT : Shp.Tab w) : Calls Tryd.prog 3 #[.slice a0 len0 cap0, .int .i64 a1, .int .i64 a2, .int .i64 a3, .slice a4 len4 cap4] w fun e w' => e = .returned (.bool true) ∧ Below w.heap.size w w' := by
  have HT0 := Lib.hid hT
  clear hT
  obtain ⟨hl0, hg⟩ := w0
  subst hl0
  obtain ⟨hl4, hz⟩ := ints_of (z := z4) w4
  have HG := Lib.hid hg
  have HZ := Lib.hid hz
  have hgs := hg.small
  have hzs := hz.small
  have hx1 := bounds_i64 w1
  have hx2 := bounds_i64 w2
  have hx3 := bounds_i64 w3
  have HGr := Lib.hid (great_any w _ z0 hg)
  simp only [maxLen] at hgs hzs
  rw [hl4] at hzs
  have HL4 := Lib.hid hl4
  clear w1 w2 w3 w4 hg hz hl4
  cases hgb : greatB z0
  case' true =>
    rw [hgb] at HGr
    clear hgb
    go_enter Tryd.func3, Tryd.ntmps3
    go_wp2_with (first | (go_at_call 7; refine (HGr.out).mono ?_; rintro e w' ⟨rfl, rfl⟩) | (go_at_call 8; refine (awake_any _ HT0.out).mono ?_; rintro e w9 ⟨rfl, H9⟩))
    go_ret
    exact ⟨rfl, H9.out⟩
  case' false =>
    rw [hgb] at HGr
    have hl30 := great_small hgb
    clear hgb
    by_cases hz60 : 60 < len4
    · have hz' : (60 : Int) < (len4 : Int) := by omega
      clear hz60
      go_enter Tryd.func3, Tryd.ntmps3
      go_wp2_with (first | (go_at_call 7; refine (HGr.out).mono ?_; rintro e w' ⟨rfl, rfl⟩) | (go_at_call 8; refine (awake_any _ HT0.out).mono ?_; rintro e w9 ⟨rfl, H9⟩))
      go_ret
      exact ⟨rfl, H9.out⟩
    have hz' : ¬ (60 : Int) < (len4 : Int) := by omega
    have hd' : decide ((60 : Int) < (len4 : Int)) = false := decide_eq_false hz'
    have hl2000 : z0.length ≤ 2000 := by omega
    have L60 : Hid ((z4.take len4).length ≤ 60) := Lib.hid (by rw [HL4.out]; omega)
    have Lr := Lib.hid (reachL_len (g := z0) a1)
    have Ld := Lib.hid (idomL_len (g := z0) a1)
    have M1 : Hid True := Lib.hid trivial
    have M2 : Hid True := Lib.hid trivial
    clear hz60
    go_enter Tryd.func3, Tryd.ntmps3
    go_wp2_with (first
      | (go_at_call 7; refine (HGr.out).mono ?_; rintro e w' ⟨rfl, rfl⟩)
      | (go_at_call 10; refine (sreach_any _ _ z0 a1 HG.out hl30 HT0.out).mono ?_; rintro e w1 ⟨u1, rfl, H1⟩)
      | (go_at_call 11; refine (reach_any _ _ z0 a1 (HG.out.kept H1.out.1) hl2000).mono ?_; rintro e w2 ⟨u2, rfl, H2⟩)
      | (go_at_call 9; refine (bools_same _ _ _ (reachL z0 a1) (own_list2 (own_kept H1.out.2 H2.out.1) Lr.out) (own_list2 H2.out.2 Lr.out)).mono ?_; rintro e w3 ⟨rfl, H3⟩; have K3 := Lib.hid ((H1.out.1.trans H2.out.1).trans H3.out))
      | (go_at_call 13; refine (sdominators_any _ _ z0 a1 (HG.out.kept K3.out) hl30 (HT0.out.kept K3.out)).mono ?_; rintro e w4 ⟨u4, rfl, H4⟩)
      | (go_at_call 14; refine (dominators_any _ _ z0 a1 (HG.out.kept (K3.out.trans H4.out.1)) hl2000).mono ?_; rintro e w5 ⟨u5, rfl, H5⟩)
      | (go_at_call 12; clear M1; refine (ints_same _ _ _ (idomL z0 a1) (own_list2 (own_kept H4.out.2 H5.out.1) Ld.out) (own_list2 H5.out.2 Ld.out)).mono ?_; rintro e w6 ⟨rfl, H6⟩; have K6 := Lib.hid (((K3.out.trans H4.out.1).trans H5.out.1).trans H6.out))
      | (go_at_call 15; refine (sdominates_any _ _ (z4.take len4) a2 a3 (HZ.out.kept K6.out) L60.out).mono ?_; rintro e w7 ⟨rfl, m7, rfl⟩; have H7 := Lib.hid ((Kept.refl w6).drewN m7))
      | (go_at_call 16; refine (dominates_any _ _ (z4.take len4) a2 a3 (HZ.out.kept (K6.out.trans H7.out)) (by have := L60.out; omega)).mono ?_; rintro e w8 ⟨rfl, rfl⟩; have K7 := Lib.hid (K6.out.trans H7.out))
      | (go_at_call 17; refine (sheads_any _ _ z0 a1 (HG.out.kept K7.out) hl30 (HT0.out.kept K7.out)).mono ?_; rintro e w9 ⟨u9, rfl, H9⟩)
      | (go_at_call 18; refine (heads_any _ _ z0 a1 (HG.out.kept (K7.out.trans H9.out.1)) hl2000).mono ?_; rintro e wa ⟨ua, rfl, Ha⟩)
      | (go_at_call 12; clear M2; refine (ints_same _ _ _ (headL z0 a1) (own_list2 (own_kept H9.out.2 Ha.out.1) rfl) (own_list2 Ha.out.2 rfl)).mono ?_; rintro e wb ⟨rfl, Hb⟩; have Kb := Lib.hid (((K7.out.trans H9.out.1).trans Ha.out.1).trans Hb.out))
      | (go_at_call 19; refine (sreducible_any _ _ z0 a1 (HG.out.kept Kb.out) hl30 (HT0.out.kept Kb.out)).mono ?_; rintro e wc ⟨rfl, Hc⟩)
      | (go_at_call 20; refine (reducible_any _ _ z0 a1 (HG.out.kept (Kb.out.trans Hc.out)) hl2000).mono ?_; rintro e wd ⟨rfl, Hd⟩; have Kd := Lib.hid ((Kb.out.trans Hc.out).trans Hd.out))
      | (go_at_call 21; refine (sorder_any _ _ z0 a1 (HG.out.kept Kd.out) hl30 (HT0.out.kept Kd.out)).mono ?_; rintro e we ⟨ue, rfl, He⟩)
      | (go_at_call 22; refine (order_any _ _ z0 a1 (HG.out.kept (Kd.out.trans He.out.1)) hl2000).mono ?_; rintro e wf ⟨uf, rfl, Hf⟩)
      | (go_at_call 12; refine (ints_same _ _ _ (orderL z0 a1) (own_list2 (own_kept He.out.2 Hf.out.1) rfl) (own_list2 Hf.out.2 rfl)).mono ?_; rintro e wg ⟨rfl, Hg⟩; have Kg := Lib.hid (((Kd.out.trans He.out.1).trans Hf.out.1).trans Hg.out))
      | (go_at_call 8; refine (awake_any _ (HT0.out.kept Kg.out)).mono ?_; rintro e wh ⟨rfl, Hh⟩))
    go_ret
    exact ⟨rfl, Kg.out.trans Hh.out⟩

set_option maxRecDepth 100000 in
theorem lifted (os : Os) (started : os.Started) (H : Type) (enc : TypeId × Value → H) :
    ReturnsInHanded {} Tryd.checked os 3 .any (fun w args => (Rows.shapeAllSpec.pre enc Tryd.prog Tryd.f3 [] false w args ∧ laidMetH Tryd.prog Shp.laid1 w) ∧ sizedMet enc Tryd.prog Tryd.f3 (OpenSpec.ofChange Rows.shapeAllSpec) false w args)
      (Rows.shapeAllSpec.post enc Tryd.prog Tryd.f3 false true false false) := by
  refine returnsInHanded_of_change_and (C := Tryd.checked) (X := fun w _ => laidMetH Tryd.prog Shp.laid1 w) (fun _ _ _ hh h => h.of_heap hh) Shp.own started (by kernel_rfl) Tryd.func3
    (ChangeSpec.witness_shaped (enc := enc) (C := Tryd.checked) (os := os) (X := fun w _ => laidMetH Tryd.prog Shp.laid1 w) false (World.doorLaid Tryd.prog 400 os) #[.slice none 0 0, .int .i64 0, .int .i64 0, .int .i64 0, .slice none 0 0] 8 rfl (World.shaped_of_RefB (by kernel_rfl) (by kernel_rfl)) (by kernel_rfl) (by kernel_rfl) (by kernel_rfl) (Shp.door_met os _)) ?_
  intro W base args ds gs before hval0 hW _ _ hL _
  have hval : ∀ (j : Nat) t v, Tryd.f3.params[j]? = some t → args[j]? = some v → Value.okWide Tryd.prog W .any base t v := hval0
  have hW' := hW
  obtain ⟨p, q, hA0, hV, rfl, hfz, hnd⟩ := hW
  have hA : DataW.TrodAll enc Tryd.prog W 0 (fun _ => true) true Tryd.f3.params.toList args.toList ds p := hA0
  rw [Tryd.params3] at hA hval
  obtain ⟨v0, vs0, d0, ds0, p0, q0, hargs, rfl, rfl, h0, r0⟩ := trodAll_cons hA
  obtain ⟨v1, vs1, d1, ds1, p1, q1, rfl, rfl, rfl, h1, r1⟩ := trodAll_cons r0
  obtain ⟨v2, vs2, d2, ds2, p2, q2, rfl, rfl, rfl, h2, r2⟩ := trodAll_cons r1
  obtain ⟨v3, vs3, d3, ds3, p3, q3, rfl, rfl, rfl, h3, r3⟩ := trodAll_cons r2
  obtain ⟨v4, vs4, d4, ds4, p4, q4, rfl, rfl, rfl, h4, r4⟩ := trodAll_cons r3
  obtain ⟨rfl, rfl, rfl⟩ := trodAll_nil r4
  obtain rfl : args = #[v0, v1, v2, v3, v4] := by cases args; simp_all
  obtain ⟨rfl, rfl⟩ := trodVars_none hV
  obtain ⟨a0, len0, cap0, rfl⟩ := okWide_slice Tryd.underlying22 (hval 0 22 v0 rfl rfl)
  have k0 := h0
  have lt0 : ∀ x ∈ p0, x.block < W.heap.size := by obtain ⟨m, hm⟩ := k0; exact DataW.trod_lt m _ _ _ hm
  obtain ⟨z0, w0⟩ : ∃ g : Shp.Gr, g.length = len0 ∧ Shp.GraphAt W (.slice a0 len0 cap0) g := by
    obtain ⟨fuel, hf⟩ := h0
    exact Shp.open_graph Tryd.underlying22 Tryd.underlying23 Tryd.underlying3 (by kernel_rfl) (by kernel_rfl) (by simpa [Value.cells] using hf)
  obtain ⟨a1, rfl, rfl, rfl, w1⟩ := open_int Tryd.underlying3 (hval 1 3 v1 rfl rfl) h1
  obtain ⟨a2, rfl, rfl, rfl, w2⟩ := open_int Tryd.underlying3 (hval 2 3 v2 rfl rfl) h2
  obtain ⟨a3, rfl, rfl, rfl, w3⟩ := open_int Tryd.underlying3 (hval 3 3 v3 rfl rfl) h3
  obtain ⟨a4, len4, cap4, rfl⟩ := okWide_slice Tryd.underlying23 (hval 4 23 v4 rfl rfl)
  have k4 := h4
  have lt4 : ∀ x ∈ p4, x.block < W.heap.size := by obtain ⟨m, hm⟩ := k4; exact DataW.trod_lt m _ _ _ hm
  obtain ⟨z4, w4⟩ : ∃ zs, IsRow .i64 W a4 len4 cap4 zs := by
    obtain ⟨fuel, hf⟩ := h4
    rcases open_ints Tryd.underlying23 Tryd.underlying3 (by kernel_rfl) hf with ⟨hcs, _⟩ | ⟨x, l, c, zs, hcs, _, hl, hm, hz, _, hcell, hwz⟩
    · simp [Value.cells] at hcs
      obtain ⟨rfl, rfl, rfl⟩ := hcs
      exact ⟨[], .inl ⟨rfl, rfl, rfl, rfl⟩⟩
    · simp [Value.cells] at hcs
      obtain ⟨rfl, rfl, rfl⟩ := hcs
      exact ⟨zs, .inr ⟨_, rfl, hl, hm, by simpa using hz, hcell, hwz⟩⟩
  have hTab := Shp.of_laid hL
  clear hA0 hval0
  refine (walk a0 len0 cap0 z0 a1 w1 a2 w2 a3 w3 a4 len4 cap4 z4 W w0 w4 hTab).mono fun e W' ⟨he, hg⟩ => ?_
  subst he
  have bel : Below W.heap.size W W' := hg
  exact ⟨_, rfl, _, _, _, [], _, [], hW', trodAll_mk1 (shut_bool Tryd.underlying4 _), (trodAll_cons_mk (Below.trod laidOut (by kernel_rfl) (of_decide_eq_true (by kernel_rfl)) k0 bel lt0) (trodAll_cons_mk (shut_int Tryd.underlying3 w1) (trodAll_cons_mk (shut_int Tryd.underlying3 w2) (trodAll_cons_mk (shut_int Tryd.underlying3 w3) (trodAll_cons_mk (Below.trod laidOut (by kernel_rfl) (of_decide_eq_true (by kernel_rfl)) k4 bel lt4) trodAll_mk0))))), rfl, bel.frame _, fun h => by cases h⟩

theorem over : Rows.shapeAllRow.holds Tryd.pinned (OpenSpec.ofChange Rows.shapeAllSpec) :=
  OpenClaim.holds_of_wide 3 Tryd.f3 rfl rfl rfl rfl rfl rfl rfl ⟨rfl, rfl, rfl, rfl, rfl⟩ rfl rfl rfl rfl rfl (by kernel_rfl) Tryd.func3 (by kernel_rfl)
    (of_decide_eq_true (by kernel_rfl)) (by unfold Func.isWrapper; first | (rw [if_pos (by decide +kernel)]; kernel_rfl) | (rw [if_neg (by decide +kernel)]; exact ⟨rfl, rfl⟩))
    (fun os started H enc _ => lifted os started H enc)

/-- THE STATEMENT. -/
theorem proved : Rows.ShapeAllCardSaid :=
  Claim7.holds_tied_plain_at .later [] [.data] true (true, "8e7315473c9697215e2e1a16c82e7f3df319d5ca6ceefee2e44519cea163f4a1") false
    over (fun _ h => by cases h) (by kernel_rfl) (fun _ h => by cases h) shapeAll_row_tie rfl ⟨rfl, rfl⟩ (by kernel_rfl) rfl
    (fun f fn hf hfn => by
      obtain rfl : f = 3 := Option.some.inj ((show Tryd.prog.funcNamed "calliper/calliperlaw12.ShapeAll" = some 3 by kernel_rfl).symm.trans hf) |>.symm
      obtain rfl : fn = Tryd.f3 := (Option.some.inj (Tryd.func3.symm.trans hfn)).symm
      exact ⟨by kernel_rfl, fun j t ht => by
        rw [Tryd.params3] at ht
        have hm : t ∈ [22, 3, 3, 3, 23] := by simpa using Array.mem_of_getElem? ht
        have hall : ([22, 3, 3, 3, 23].all fun u => !Tryd.prog.wantsStandIn u) = true := by kernel_rfl
        exact (show Tryd.prog.wantsStandIn t = false by simpa using List.all_eq_true.1 hall t hm)⟩)
    (by kernel_rfl)
#print axioms proved
end Go.Proofs.YtpkebokfbigggaaDoor.shapeAll
