/-
  Proved: the statement 'EvalMixedSaid' of the seat: for every input that law returns true, and each argument reads afterwards as it read before. No condition of ours.
  The frame is the guide's shell; the walk and the contracts that it uses are ours.
-/
import Derived.Test.YtnlkcjbnmkpnhaaRows
import Derived.WalkKit
import Derived.ProofKit
import Derived.OpenShut
import Derived.Test.YtnlkcjbnmkpnhaaBase
import Derived.Test.YtnlkcjbnmkpnhaaEvTop
import Derived.Deep.RegionHeld3
import Derived.ShutString
namespace Go.Proofs.Ytnlkcjbnmkpnhaa.evalMixed
open Go.ChangeShapes Go.WideShapes Go.ChangeAt Go.RowKit
open Go.ChangeMaps (open_string shut_string)
set_option linter.unusedVariables false      -- a walk need not use every 'w<i>' (that an integer argument fits its kind)

theorem own : ownKnob Try.prog.godebug = none := by kernel_rfl

open Evl
open Fnd (bx_cell bx_froz)
open Mem (Bk MemAt St tv)

/-! ### STEP 1: THE WALK: the Go text returns true. 'Kept w w'': nothing that was there has changed. Part the cases AHEAD of 'go_enter' where a test parts the walk; take each callee by a contract of your own. -/
set_option maxRecDepth 100000 in
set_option maxHeartbeats 4000000 in
theorem walk (a0 : Int) (a1 : Int) (a2 : Int) (w0 : (Lit.int .i32 a0).wf = true) (w1 : (Lit.int .u8 a1).wf = true) (w2 : (Lit.int .u32 a2).wf = true) (w : World) :
    Calls Try.prog 5 #[.int .i32 a0, .int .u8 a1, .int .u32 a2] w fun e w' => e = .returned (.bool true) ∧ Kept w w' := by
  have hx := bounds_i32 w0
  have hy := bounds_u8 w1
  have hg := bounds_u32 w2
  have HA := Lib.hid (fun wx => awake_any wx)
  go_enter Try.func5, Try.ntmps5
  have n1 := World.alloc_heap_new w (.cells #[.int .i64 a0, .int .i64 a1, .int .i64 a2] 3)
  have HB1 := Lib.hid (both_any (w.alloc (.cells #[.int .i64 a0, .int .i64 a1, .int .i64 a2] 3)) _ [a0, a1, a2] (nums_new n1 rfl (show 3 ≤ 20 by decide)))
  have K1 := Lib.hid ((Kept.refl w).alloc (.cells #[.int .i64 a0, .int .i64 a1, .int .i64 a2] 3))
  clear n1
  go_upto_region 2 with (go_at_call 9; refine (HB1.out).mono ?_; rintro e1 v1 ⟨pm, pr, rfl, H1⟩)
  clear HB1
  go_upto_region 5 with (go_at_call 10; refine (names_any _).mono ?_; rintro e3 v4 ⟨rfl, rfl⟩)
  obtain ⟨x0, x1, kW⟩ := two v1 (.cells namesC 63) (.cells #[.pointer (some ⟨pm, 0, none⟩), .slice (some ⟨v1.heap.size, 0, none⟩) 4 4, .pointer none, .slice none 0 0, .int .i64 0, .int .i64 0] 33)
  generalize ((v1.alloc (.cells namesC 63)).alloc (.cells #[.pointer (some ⟨pm, 0, none⟩), .slice (some ⟨v1.heap.size, 0, none⟩) 4 4, .pointer none, .slice none 0 0, .int .i64 0, .int .i64 0] 33)) = W at *
  have KW := Lib.hid ((K1.out.trans H1.out.keep0).trans kW)
  generalize v1.heap.size = nb at *
  obtain ⟨L, hL, hm1⟩ := mem_is H1.out kW
  have HE := Lib.hid (show EnvAt W _ _ (.pointer none) (.slice none 0 0) (lawE L none [] 0 0) from ⟨hm1, names_at x0, .inl ⟨rfl, rfl⟩, binds_nil W⟩)
  have HF := Lib.hid (fun w' (hk : Kept W w') => (And.intro (bx_cell (kh x1 hk) 0 _ rfl) (And.intro (bx_cell (kh x1 hk) 1 _ rfl) (And.intro (bx_cell (kh x1 hk) 2 _ rfl) (And.intro (bx_cell (kh x1 hk) 3 _ rfl) (And.intro (bx_cell (kh x1 hk) 4 _ rfl) (bx_cell (kh x1 hk) 5 _ rfl)))))))
  have HL := Lib.hid hL
  clear x0 x1 kW hm1 hL K1 H1
  have HN1 := Lib.hid (fun w' => nodes_ok ⟨#[121, 32, 43, 32, 51, 48, 48]⟩ tYm w' (by decide) tYm_read (by decide))
  have HV1 := Lib.hid (fun w' (hk : Kept W w') v (hl : ListAt w' v tYm.x) => Value_any hl (HE.out.kept hk) down_ym 2)
  rw [ym_val HL.out hy] at HV1
  unfold envVal at HV1
  simp only [lawE] at HV1
  have HN2 := Lib.hid (fun w' => nodes_ok ⟨#[120, 32, 43, 32, 103, 48]⟩ tXg w' (by decide) tXg_read (by decide))
  have HV2 := Lib.hid (fun w' (hk : Kept W w') v (hl : ListAt w' v tXg.x) => Value_any hl (HE.out.kept hk) down_xg 2)
  rw [xg_val HL.out hx hg] at HV2
  unfold envVal at HV2
  simp only [lawE] at HV2
  have HN3 := Lib.hid (fun w' => nodes_ok ⟨#[117, 56, 32, 40, 32, 120, 32, 41]⟩ tUx w' (by decide) tUx_read (by decide))
  have HV3 := Lib.hid (fun w' (hk : Kept W w') v (hl : ListAt w' v tUx.x) => Value_any hl (HE.out.kept hk) down_ux 1)
  rw [ux_val HL.out hx] at HV3
  unfold envVal at HV3
  simp only [lawE] at HV3
  obtain ⟨c0, c1, c2, c3, c4, c5⟩ := HF.out _ (Kept.refl W)
  go_upto_region 5 with fail
  go_region_held3 (fun w' => w'.cell? ⟨nb + 1, 0, none⟩ = some (.pointer (some ⟨pm, 0, none⟩)) ∧ w'.cell? ⟨nb + 1, 1, none⟩ = some (.slice (some ⟨nb, 0, none⟩) 4 4) ∧ w'.cell? ⟨nb + 1, 2, none⟩ = some (.pointer none) ∧ w'.cell? ⟨nb + 1, 3, none⟩ = some (.slice none 0 0) ∧ w'.cell? ⟨nb + 1, 4, none⟩ = some (.int .i64 0) ∧ w'.cell? ⟨nb + 1, 5, none⟩ = some (.int .i64 0))
    (first | exact ⟨c0, c1, c2, c3, c4, c5⟩ | go_keep | exact CC.out)
    ((first | (go_at_call 8; refine (HN1.out _).mono ?_; rintro e4 y6 ⟨l4, rfl, H4⟩; have K5 := Lib.hid ((Kept.refl W).drew.trans H4.out.1); have CC := Lib.hid (HF.out _ K5.out)) | (go_at_call 11; refine (HV1.out _ K5.out _ H4.out.2).mono ?_; rintro e5 z6 ⟨rfl, k5⟩; have K6 := Lib.hid (K5.out.trans k5); clear k5 CC; have CC := Lib.hid (HF.out _ K6.out))))
  clear c0 c1 c2 c3 c4 c5 CC H4 K5 HN1 HV1
  obtain ⟨d0, d1, d2, d3, d4, d5⟩ := HF.out _ (K6.out)
  go_upto_region 6 with fail
  go_region_held3 (fun w' => w'.cell? ⟨nb + 1, 0, none⟩ = some (.pointer (some ⟨pm, 0, none⟩)) ∧ w'.cell? ⟨nb + 1, 1, none⟩ = some (.slice (some ⟨nb, 0, none⟩) 4 4) ∧ w'.cell? ⟨nb + 1, 2, none⟩ = some (.pointer none) ∧ w'.cell? ⟨nb + 1, 3, none⟩ = some (.slice none 0 0) ∧ w'.cell? ⟨nb + 1, 4, none⟩ = some (.int .i64 0) ∧ w'.cell? ⟨nb + 1, 5, none⟩ = some (.int .i64 0))
    (first | exact ⟨d0, d1, d2, d3, d4, d5⟩ | go_keep | exact CC.out)
    ((first | (go_at_call 8; refine (HN2.out _).mono ?_; rintro e4 y7 ⟨l4, rfl, H4⟩; have K5 := Lib.hid ((K6.out).drew.trans H4.out.1); have CC := Lib.hid (HF.out _ K5.out)) | (go_at_call 11; refine (HV2.out _ K5.out _ H4.out.2).mono ?_; rintro e5 z7 ⟨rfl, k5⟩; have K7 := Lib.hid (K5.out.trans k5); clear k5 CC; have CC := Lib.hid (HF.out _ K7.out))))
  clear d0 d1 d2 d3 d4 d5 CC H4 K5 HN2 HV2
  obtain ⟨e0, e1, e2, e3, e4, e5⟩ := HF.out _ (K7.out)
  go_upto_region 7 with fail
  go_region_held3 (fun w' => w'.cell? ⟨nb + 1, 0, none⟩ = some (.pointer (some ⟨pm, 0, none⟩)) ∧ w'.cell? ⟨nb + 1, 1, none⟩ = some (.slice (some ⟨nb, 0, none⟩) 4 4) ∧ w'.cell? ⟨nb + 1, 2, none⟩ = some (.pointer none) ∧ w'.cell? ⟨nb + 1, 3, none⟩ = some (.slice none 0 0) ∧ w'.cell? ⟨nb + 1, 4, none⟩ = some (.int .i64 0) ∧ w'.cell? ⟨nb + 1, 5, none⟩ = some (.int .i64 0))
    (first | exact ⟨e0, e1, e2, e3, e4, e5⟩ | go_keep | exact CC.out)
    ((first | (go_at_call 8; refine (HN3.out _).mono ?_; rintro e4 y8 ⟨l4, rfl, H4⟩; have K5 := Lib.hid ((K7.out).drew.trans H4.out.1); have CC := Lib.hid (HF.out _ K5.out)) | (go_at_call 11; refine (HV3.out _ K5.out _ H4.out.2).mono ?_; rintro e5 z8 ⟨rfl, k5⟩; have K8 := Lib.hid (K5.out.trans k5); clear k5 CC; have CC := Lib.hid (HF.out _ K8.out))))
  clear e0 e1 e2 e3 e4 e5 CC H4 K5 HN3 HV3
  have HC := Lib.hid (fun wx => Rpr.Cond_ok (s := ⟨#[120, 32, 60, 32, 103, 48]⟩) wx (by decide) tLt_read)
  have HT0 := Lib.hid (fun w' (hk : Kept W w') v (hl : CondsAt w' v [tLt]) => Test_any hl (HE.out.kept hk) downA_lt 0)
  rw [lt_val HL.out hx hg] at HT0
  unfold envVal at HT0
  simp only [lawE] at HT0
  go_upto_region 9 with (go_at_call 13; refine (HC.out _).mono ?_; rintro e6 v6 ⟨lv, rfl, H6⟩)
  have K9 := Lib.hid (K8.out.trans H6.out.1)
  have HL1 := Lib.hid (conds_at H6.out.2 (show 1 ≤ 8193 by decide) (fun i h => by
    obtain rfl : i = 0 := by simpa using h
    exact ⟨show 1 ≤ 8193 by decide, show 1 ≤ 8193 by decide⟩))
  have HT := Lib.hid (HT0.out _ K9.out _ HL1.out)
  clear HT0 H6 HC HL1
  obtain ⟨c0, c1, c2, c3, c4, c5⟩ := HF.out _ K9.out
  go_upto_region 10 with (go_at_call 14; refine (HT.out).mono ?_; rintro e7 v7 ⟨rfl, k7⟩; have K10 := Lib.hid (K9.out.trans k7); clear k7)
  clear c0 c1 c2 c3 c4 c5
  go_wp2_with (go_at_call 7; refine (HA.out _).mono ?_; rintro e9 v9 ⟨rfl, H9⟩)
  go_ret
  exact ⟨rfl, KW.out.trans (K10.out.trans H9.out)⟩

/-! ### THE ROW's STEP: WRITTEN OUT: LEAVE IT -/
set_option maxRecDepth 100000 in
theorem lifted (os : Os) (started : os.Started) (H : Type) (enc : TypeId × Value → H) :
    ReturnsInHanded {} Try.checked os 5 .any (Rows.evalMixedSpec.pre6 enc Try.prog Try.f5 Rows.evalMixedRow.domain false) (Rows.evalMixedSpec.post enc Try.prog Try.f5 false true false false) := by
  refine returnsInHanded_of_change (C := Try.checked) own started (by kernel_rfl) Try.func5
    (ChangeSpec.witness6 (enc := enc) (C := Try.checked) false ⟨#[], #[.int .i32 0, .int .u8 0, .int .u32 0], []⟩ 8 (by kernel_rfl) (by kernel_rfl) (by kernel_rfl) (by kernel_rfl)) ?_
  intro W base args ds gs before hval0 hW hcnd _
  have hval : ∀ (j : Nat) t v, Try.f5.params[j]? = some t → args[j]? = some v → Value.okWide Try.prog W .any base t v := hval0
  have hW' := hW
  obtain ⟨p, q, hA0, hV, rfl, hfz, hnd⟩ := hW
  have hA : DataW.TrodAll enc Try.prog W 0 (fun _ => true) true Try.f5.params.toList args.toList ds p := hA0
  rw [Try.params5] at hA hval
  obtain ⟨v0, vs0, d0, ds0, p0, q0, hargs, rfl, rfl, h0, r0⟩ := trodAll_cons hA
  obtain ⟨v1, vs1, d1, ds1, p1, q1, rfl, rfl, rfl, h1, r1⟩ := trodAll_cons r0
  obtain ⟨v2, vs2, d2, ds2, p2, q2, rfl, rfl, rfl, h2, r2⟩ := trodAll_cons r1
  obtain ⟨rfl, rfl, rfl⟩ := trodAll_nil r2
  obtain rfl : args = #[v0, v1, v2] := by cases args; simp_all
  obtain ⟨rfl, rfl⟩ := trodVars_none hV
  obtain ⟨a0, rfl, rfl, rfl, w0⟩ := open_int Try.underlying21 (hval 0 21 v0 rfl rfl) h0
  obtain ⟨a1, rfl, rfl, rfl, w1⟩ := open_int Try.underlying5 (hval 1 5 v1 rfl rfl) h1
  obtain ⟨a2, rfl, rfl, rfl, w2⟩ := open_int Try.underlying46 (hval 2 46 v2 rfl rfl) h2
  clear hA0 hval0
  simp only [List.append_nil] at hW'
  refine (walk a0 a1 a2 w0 w1 w2 W).mono fun e W' ⟨he, hg⟩ => ?_
  subst he
  exact ⟨_, rfl, post_kept hW' (fun _ _ _ => (trodAll_cons_mk (shut_bool Try.underlying4 _) trodAll_mk0)) (fun sp => (trodAll_cons_mk (shut_int Try.underlying21 w0) (trodAll_cons_mk (shut_int Try.underlying5 w1) (trodAll_cons_mk (shut_int Try.underlying46 w2) trodAll_mk0)))) (fun _ => rfl) hg⟩

theorem over : Rows.evalMixedRow.holds Try.pinned (OpenSpec.ofChange Rows.evalMixedSpec) :=
  OpenClaim.holds_of_wide 5 Try.f5 rfl rfl rfl rfl rfl rfl rfl ⟨rfl, rfl, rfl, rfl, rfl⟩ rfl rfl rfl rfl rfl (by kernel_rfl) Try.func5 (by kernel_rfl)
    (of_decide_eq_true (by kernel_rfl)) (by unfold Func.isWrapper; first | (rw [if_pos (by decide +kernel)]; kernel_rfl) | (rw [if_neg (by decide +kernel)]; exact ⟨rfl, rfl⟩))
    (fun os started H enc _ => lifted os started H enc)

/-- ████ THE STATEMENT ████ -/
theorem proved : Rows.EvalMixedSaid :=
  over
#print axioms proved
end Go.Proofs.Ytnlkcjbnmkpnhaa.evalMixed
