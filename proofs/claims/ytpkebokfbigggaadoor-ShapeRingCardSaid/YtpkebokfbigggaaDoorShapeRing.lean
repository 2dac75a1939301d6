/-
  Proved: the statement 'ShapeRingCardSaid' of the seat: for every input that law returns true, and each argument reads afterwards as it read before; the package variable that its row lists is tied to the program's text. No condition of ours.
-/
import Derived.Test.YtpkebokfbigggaaDoorRows
import Derived.Test.YtpkebokfbigggaaDoorTie
import Derived.Test.YtpkebokfbigggaaDoorCards
import Derived.Test.YtpkebokfbigggaaDoorShqR
import Derived.ChangeMaps5
import Derived.Test.YtpkebokfbigggaaDoorShpT
namespace Go.Proofs.YtpkebokfbigggaaDoor.shapeRing
open Go.RowKit Go.ChangeShapes Go.WideShapes Go.ChangeAt
open Go.ChangeMaps (open_string shut_string)
open Shp
set_option maxHeartbeats 4000000 in
set_option maxRecDepth 100000 in
theorem walk (a0 : Int) (w0 : (Lit.int .u8 a0).wf = true) (a1 : Int) (w1 : (Lit.int .u8 a1).wf = true) (a2 : Int) (w2 : (Lit.int .u8 a2).wf = true) (w : World) (hT : Shp.Tab w) : Calls Tryd.prog 6 #[.int .u8 a0, .int .u8 a1, .int .u8 a2] w fun e w' => e = .returned (.bool true) ∧ Below w.heap.size w w' := by
  have HT0 := Lib.hid hT
  clear hT
  have hb0 := bounds_u8 w0
  have hb1 := bounds_u8 w1
  have hb2 := bounds_u8 w2
  clear w0 w1 w2
  obtain ⟨K, hK⟩ : ∃ K : Nat, (2 : Int) + a0 % 15 = K := ⟨(2 + a0 % 15).toNat, by omega⟩
  have hK2 : 2 ≤ K ∧ K ≤ 16 := by omega
  have hK0 : 0 < K := by omega
  obtain ⟨x, hx⟩ : ∃ x : Nat, a1 % (K : Int) = x := ⟨(a1 % (K : Int)).toNat, by have := Int.emod_nonneg a1 (b := (K : Int)) (by omega); omega⟩
  obtain ⟨y, hy⟩ : ∃ y : Nat, a2 % (K : Int) = y := ⟨(a2 % (K : Int)).toNat, by have := Int.emod_nonneg a2 (b := (K : Int)) (by omega); omega⟩
  have hxk : x < K := by have := Int.emod_lt_of_pos a1 (b := (K : Int)) (by omega); omega
  have hyk : y < K := by have := Int.emod_lt_of_pos a2 (b := (K : Int)) (by omega); omega
  have hx' : a1.tmod (K : Int) = x := by rw [Int.tmod_eq_emod_of_nonneg (by omega)]; exact hx
  have hy' : a2.tmod (K : Int) = y := by rw [Int.tmod_eq_emod_of_nonneg (by omega)]; exact hy
  have hKn : ((K : Int) == 0) = false := by rw [beq_eq_false_iff_ne]; omega
  have Hxy := Lib.hid (And.intro hx (And.intro hy (And.intro hx' hy')))
  obtain ⟨i0, hi, hz0, hz1, hz2⟩ := info_get slice_inf
  have Hj := Lib.hid (And.intro hi (And.intro hz0 (And.intro hz1 hz2)))
  have HLn := Lib.hid (ring_len (k := K) (x := x) (y := y))
  clear hi hz0 hz1 hz2 hx hy hx' hy'
  have hst : Hid (∃ us, MadeAt w w (.slice none 0 0) (ringG K x y) 0 us) := Lib.hid ⟨[], made_start _ _⟩
  go_enter Tryd.func6, Tryd.ntmps6
  go_wp2
  go_loopg [8, 9] (K) (fun m vg i wz => ∃ j : Nat, m = K - j ∧ j ≤ K ∧ i = .int .i64 (j : Int) ∧ Hid (∃ us, MadeAt w wz vg (ringG K x y) j us))
  case atStart => exact ⟨0, by omega, by omega, rfl, hst⟩
  case round =>
    clear hst
    obtain ⟨j, rfl, hj, rfl, HU⟩ := hrel
    obtain ⟨us, HU⟩ := HU.out
    have HC := Lib.hid HU
    obtain ⟨ha, hc, e⟩ := own_form HU.own
    subst e
    have hws := Below.size HU.kept
    clear HU
    by_cases hlt : j < K
    · obtain ⟨r, hr⟩ : ∃ r, (j + 1) % K = r := ⟨_, rfl⟩
      have hr1 : ((j : Int) + 1) % (K : Int) = (r : Int) := by subst hr; simp
      have hr2 : ((j : Int) + 1).tmod (K : Int) = (r : Int) := by rw [Int.tmod_eq_emod_of_nonneg (by omega)]; exact hr1
      have hrk : r < K := by rw [← hr]; exact Nat.mod_lt _ hK0
      have HR := Lib.hid (ring_row (k := K) (x := x) (y := y) hlt)
      rw [hr] at HR
      clear hr
      go_wp2_with (at_builtin; refine wpList_append_lies _ rfl (.tmp 22) (.tmp 28) 22 rfl w.heap.size 23 i0 _ 1 24 Tryd.underlying22 Hj.out.1 Hj.out.2.1 Hj.out.2.2.1 Hj.out.2.2.2 rfl (by omega) (.slice ha j hc) j us rfl ((HC.out.own.alloc _).alloc _) ⟨wr.heap.size + 1, 0, none⟩ 1 1 [.slice (some ⟨wr.heap.size, 0, none⟩) 1 1] rfl rfl (World.news_of_block (cs := #[.slice (some ⟨wr.heap.size, 0, none⟩) 1 1]) (by have := heap_alloc_new (wr.alloc (.cells #[.int .i64 (r : Int)] 3)) (.cells #[.slice (some ⟨wr.heap.size, 0, none⟩) 1 1] 23); simpa using this)) (by simp [Value.oneCell']) (by omega) (by simp only [maxLen]; omega) (by omega) (by simp; omega) (wr.heap.size + 2) (by simp) ?_; intro g7 cap7 w7 hown hgrow hat hlt7; have Hown := Lib.hid hown; have Hgrow := Lib.hid hgrow; clear hown hgrow hat)
      go_roundg (K - (j + 1))
      case measure => omega
      case rel => exact ⟨j + 1, rfl, by omega, by simp, Lib.hid ⟨_, HC.out.snoc (l := [(r : Int)]) HR.out (by simp) rfl Hgrow.out Hown.out⟩⟩
    · obtain rfl : j = K := by omega
      have HR := Lib.hid (ring_last (k := j) (x := x) (y := y))
      have hx := Hxy.out.1
      have hy := Hxy.out.2.1
      have hx' := Hxy.out.2.2.1
      have hy' := Hxy.out.2.2.2
      clear hlt
      go_wp2
      go_quiet (fail)
      have HC2 := Lib.hid (HC.out.keep ((Kept.refl wr).drewN nq))
      have hws2 := Below.size HC2.out.kept
      clear hx hy hx' hy' HC hws
      generalize wr.drewN nq = wo at *
      have hkn : ((j : Nat) : Int) = (j : Int) := rfl
      go_upto_region 9 with (at_builtin; refine wpList_append_lies _ rfl (.tmp 38) (.tmp 42) 22 rfl w.heap.size 23 i0 _ 1 24 Tryd.underlying22 Hj.out.1 Hj.out.2.1 Hj.out.2.2.1 Hj.out.2.2.2 rfl (by omega) (.slice ha j hc) j us rfl ((HC2.out.own.alloc _).alloc _) ⟨wo.heap.size + 1, 0, none⟩ 1 1 [.slice (some ⟨wo.heap.size, 0, none⟩) 2 2] rfl rfl (World.news_of_block (cs := #[.slice (some ⟨wo.heap.size, 0, none⟩) 2 2]) (by have := heap_alloc_new (wo.alloc (.cells #[.int .i64 (x : Int), .int .i64 (y : Int)] 3)) (.cells #[.slice (some ⟨wo.heap.size, 0, none⟩) 2 2] 23); simpa using this)) (by simp [Value.oneCell']) (by omega) (by simp only [maxLen]; omega) (by omega) (by simp; omega) (wo.heap.size + 2) (by simp) ?_; intro g7 cap7 w7 hown hgrow hat hlt7; have Hown := Lib.hid hown; have Hgrow := Lib.hid hgrow; clear hown hgrow hat)
      have HG := Lib.hid (show GraphAt w7 (.slice (some ⟨g7, 0, none⟩) (j + 1) cap7) (ringG j x y) from by
        have h := HC2.out.snoc (l := [(x : Int), (y : Int)]) HR.out (by simp) rfl Hgrow.out Hown.out
        exact h.graph HLn.out.symm (ring_wf (by omega) hK0 hxk hyk))
      have HK7 := Lib.hid (HC2.out.snoc (l := [(x : Int), (y : Int)]) HR.out (by simp) rfl Hgrow.out Hown.out).kept
      have HH := Lib.hid (sheads_any w7 _ (ringG j x y) (j : Int) HG.out (by rw [HLn.out]; omega) (HT0.out.kept HK7.out))
      have HD := Lib.hid (fun W (hk : Kept w7 W) => sreducible_any W _ (ringG j x y) (j : Int) (HG.out.kept hk) (by rw [HLn.out]; omega) ((HT0.out.kept HK7.out).kept hk))
      clear Hown Hgrow HC2
      by_cases hxy : x = y
      · subst hxy
        rw [ring_heads_one hK2.1 hxk] at HH
        rw [ring_red_one hK2.1 hxk] at HD
        have hd : ((x : Int) == (x : Int)) = true := by simp
        go_upto_region 10 with (go_at_call 17; refine (HH.out).mono ?_; rintro e w8 ⟨u, rfl, H8⟩)
        obtain ⟨ua, uc, e⟩ := own_form H8.out.2
        subst e
        obtain ⟨gr, e, -, -, h1, h2, c1, -⟩ := num_at H8.out.2 (b := 0) (by simp)
        subst e
        simp only [maxLen] at h2
        simp only [List.length_cons, List.length_nil, List.getElem_cons_zero, Nat.zero_add] at c1 h1 ⊢
        have HK8 := Lib.hid (HK7.out.trans H8.out.1)
        have HD8 := Lib.hid (HD.out w8 H8.out.1)
        have blk8 := World.block_lt_of_cell? w8 _ c1
        clear H8 HH HD
        go_wp2_with (first | (go_at_call 19; refine (HD8.out).mono ?_; rintro e w9 ⟨rfl, H9⟩; have c2 := (World.cell?_of_block (a := ⟨gr, 0, none⟩) (H9.out.block _ blk8)).trans c1) | (go_at_call 8; refine (awake_any _ (HT0.out.kept (HK8.out.trans H9.out))).mono ?_; rintro e wa ⟨rfl, Ha⟩))
        go_ret
        exact ⟨rfl, (HK8.out.trans H9.out).trans Ha.out⟩
      · rw [ring_heads_two hK2.1 hxk hyk hxy] at HH
        rw [ring_red_two hK2.1 hxk hyk hxy] at HD
        have hd : ((x : Int) == (y : Int)) = false := by rw [beq_eq_false_iff_ne]; omega
        clear hxy
        go_upto_region 10 with (go_at_call 17; refine (HH.out).mono ?_; rintro e w8 ⟨u, rfl, H8⟩)
        obtain ⟨ua, uc, e⟩ := own_form H8.out.2
        subst e
        simp only [List.length_nil]
        have HK8 := Lib.hid (HK7.out.trans H8.out.1)
        have HD8 := Lib.hid (HD.out w8 H8.out.1)
        clear H8 HH HD
        go_wp2_with (first | (go_at_call 19; refine (HD8.out).mono ?_; rintro e w9 ⟨rfl, H9⟩) | (go_at_call 8; refine (awake_any _ (HT0.out.kept (HK8.out.trans H9.out))).mono ?_; rintro e wa ⟨rfl, Ha⟩))
        go_ret
        exact ⟨rfl, (HK8.out.trans H9.out).trans Ha.out⟩

set_option maxRecDepth 100000 in
theorem lifted (os : Os) (started : os.Started) (H : Type) (enc : TypeId × Value → H) :
    ReturnsInHanded {} Tryd.checked os 6 .any (fun w args => (Rows.shapeRingSpec.pre enc Tryd.prog Tryd.f6 [] false w args ∧ laidMetH Tryd.prog Shp.laid1 w) ∧ sizedMet enc Tryd.prog Tryd.f6 (OpenSpec.ofChange Rows.shapeRingSpec) false w args)
      (Rows.shapeRingSpec.post enc Tryd.prog Tryd.f6 false true false false) := by
  refine returnsInHanded_of_change_and (C := Tryd.checked) (X := fun w _ => laidMetH Tryd.prog Shp.laid1 w) (fun _ _ _ hh h => h.of_heap hh) Shp.own started (by kernel_rfl) Tryd.func6
    (ChangeSpec.witness_shaped (enc := enc) (C := Tryd.checked) (os := os) (X := fun w _ => laidMetH Tryd.prog Shp.laid1 w) false (World.doorLaid Tryd.prog 400 os) #[.int .u8 0, .int .u8 0, .int .u8 0] 8 rfl (World.shaped_of_RefB (by kernel_rfl) (by kernel_rfl)) (by kernel_rfl) (by kernel_rfl) (by kernel_rfl) (Shp.door_met os _)) ?_
  intro W base args ds gs before hval0 hW _ _ hL _
  have hval : ∀ (j : Nat) t v, Tryd.f6.params[j]? = some t → args[j]? = some v → Value.okWide Tryd.prog W .any base t v := hval0
  have hW' := hW
  obtain ⟨p, q, hA0, hV, rfl, hfz, hnd⟩ := hW
  have hA : DataW.TrodAll enc Tryd.prog W 0 (fun _ => true) true Tryd.f6.params.toList args.toList ds p := hA0
  rw [Tryd.params6] at hA hval
  obtain ⟨v0, vs0, d0, ds0, p0, q0, hargs, rfl, rfl, h0, r0⟩ := trodAll_cons hA
  obtain ⟨v1, vs1, d1, ds1, p1, q1, rfl, rfl, rfl, h1, r1⟩ := trodAll_cons r0
  obtain ⟨v2, vs2, d2, ds2, p2, q2, rfl, rfl, rfl, h2, r2⟩ := trodAll_cons r1
  obtain ⟨rfl, rfl, rfl⟩ := trodAll_nil r2
  obtain rfl : args = #[v0, v1, v2] := by cases args; simp_all
  obtain ⟨rfl, rfl⟩ := trodVars_none hV
  obtain ⟨a0, rfl, rfl, rfl, w0⟩ := open_int Tryd.underlying5 (hval 0 5 v0 rfl rfl) h0
  obtain ⟨a1, rfl, rfl, rfl, w1⟩ := open_int Tryd.underlying5 (hval 1 5 v1 rfl rfl) h1
  obtain ⟨a2, rfl, rfl, rfl, w2⟩ := open_int Tryd.underlying5 (hval 2 5 v2 rfl rfl) h2
  have hTab := Shp.of_laid hL
  clear hA0 hval0
  refine (walk a0 w0 a1 w1 a2 w2 W hTab).mono fun e W' ⟨he, hg⟩ => ?_
  subst he
  have bel : Below W.heap.size W W' := hg
  exact ⟨_, rfl, _, _, _, [], _, [], hW', trodAll_mk1 (shut_bool Tryd.underlying4 _), (trodAll_cons_mk (shut_int Tryd.underlying5 w0) (trodAll_cons_mk (shut_int Tryd.underlying5 w1) (trodAll_cons_mk (shut_int Tryd.underlying5 w2) trodAll_mk0))), rfl, bel.frame _, fun h => by cases h⟩

theorem over : Rows.shapeRingRow.holds Tryd.pinned (OpenSpec.ofChange Rows.shapeRingSpec) :=
  OpenClaim.holds_of_wide 6 Tryd.f6 rfl rfl rfl rfl rfl rfl rfl ⟨rfl, rfl, rfl, rfl, rfl⟩ rfl rfl rfl rfl rfl (by kernel_rfl) Tryd.func6 (by kernel_rfl)
    (of_decide_eq_true (by kernel_rfl)) (by unfold Func.isWrapper; first | (rw [if_pos (by decide +kernel)]; kernel_rfl) | (rw [if_neg (by decide +kernel)]; exact ⟨rfl, rfl⟩))
    (fun os started H enc _ => lifted os started H enc)

/-- THE STATEMENT. -/
theorem proved : Rows.ShapeRingCardSaid :=
  Claim7.holds_tied_plain_at .later [] [.data] true (true, "8e7315473c9697215e2e1a16c82e7f3df319d5ca6ceefee2e44519cea163f4a1") false
    over (fun _ h => by cases h) (by kernel_rfl) (fun _ h => by cases h) shapeRing_row_tie rfl ⟨rfl, rfl⟩ (by kernel_rfl) rfl
    (fun f fn hf hfn => by
      obtain rfl : f = 6 := Option.some.inj ((show Tryd.prog.funcNamed "calliper/calliperlaw12.ShapeRing" = some 6 by kernel_rfl).symm.trans hf) |>.symm
      obtain rfl : fn = Tryd.f6 := (Option.some.inj (Tryd.func6.symm.trans hfn)).symm
      exact ⟨by kernel_rfl, fun j t ht => by
        rw [Tryd.params6] at ht
        have hm : t ∈ [5, 5, 5] := by simpa using Array.mem_of_getElem? ht
        have hall : ([5, 5, 5].all fun u => !Tryd.prog.wantsStandIn u) = true := by kernel_rfl
        exact (show Tryd.prog.wantsStandIn t = false by simpa using List.all_eq_true.1 hall t hm)⟩)
    (by kernel_rfl)
#print axioms proved
end Go.Proofs.YtpkebokfbigggaaDoor.shapeRing
