/-
  Proved: the statement 'EvalOldSaid' of the seat: for every input that law returns true, and each argument reads afterwards as it read before. No condition of ours.
  The frame is the guide's shell; the walk and the contracts that it uses are ours.
-/
import Derived.Test.YtnlkcjbnmkpnhaaRows
import Derived.WalkKit
import Derived.ProofKit
import Derived.OpenShut
import Derived.Test.YtnlkcjbnmkpnhaaBase
import Derived.Test.YtnlkcjbnmkpnhaaEvTop
import Derived.Deep.CutBlock
import Derived.Deep.CutRange
import Derived.Deep.RegionHeld3
import Derived.ShutString
namespace Go.Proofs.Ytnlkcjbnmkpnhaa.evalOld
open Go.ChangeShapes Go.WideShapes Go.ChangeAt Go.RowKit
open Go.ChangeMaps (open_string shut_string)
set_option linter.unusedVariables false      -- a walk need not use every 'w<i>' (that an integer argument fits its kind)

theorem own : ownKnob Try.prog.godebug = none := by kernel_rfl

open Evl
open Fnd (bx_cell bx_froz)
open Mem (Bk MemAt St tv)

/-! ### STEP 1: THE WALK: the Go text returns true. 'Kept w w'': nothing that was there has changed. Part the cases AHEAD of 'go_enter' where a test parts the walk; take each callee by a contract of your own. -/
set_option maxRecDepth 100000 in
set_option maxHeartbeats 4000000 in
theorem walk (a0 : Int) (a1 : Int) (a2 : Int) (w0 : (Lit.int .i16 a0).wf = true) (w1 : (Lit.int .i16 a1).wf = true) (w2 : (Lit.int .u8 a2).wf = true) (w : World) :
    Calls Try.prog 6 #[.int .i16 a0, .int .i16 a1, .int .u8 a2] w fun e w' => e = .returned (.bool true) ∧ Kept w w' := by
  have hx := bounds_i16 w0
  have hy := bounds_i16 w1
  have hc := bounds_u8 w2
  obtain ⟨k, hk9, hk⟩ : ∃ k : Nat, k < 9 ∧ a2 % 9 = (k : Int) := ⟨(a2 % 9).toNat, by omega, by omega⟩
  go_enter Try.func6, Try.ntmps6
  have n1 := World.alloc_heap_new w (.cells #[.int .i64 a0] 3)
  have HB1 := Lib.hid (both_any (w.alloc (.cells #[.int .i64 a0] 3)) _ [a0] (nums_new n1 rfl (show 1 ≤ 20 by decide)))
  have K1 := Lib.hid ((Kept.refl w).alloc (.cells #[.int .i64 a0] 3))
  clear n1
  go_upto_region 2 with (go_at_call 9; refine (HB1.out).mono ?_; rintro e1 v1 ⟨pm, pr, rfl, H1⟩)
  clear HB1
  have K2 := Lib.hid (K1.out.trans H1.out.keep0)
  have n2 := World.alloc_heap_new v1 (.cells #[.int .i64 a1, .int .i64 0, .int .i64 0, .int .i64 5, .int .i64 6, .int .i64 7, .int .i64 8] 3)
  have HB2 := Lib.hid (both_any (v1.alloc (.cells #[.int .i64 a1, .int .i64 0, .int .i64 0, .int .i64 5, .int .i64 6, .int .i64 7, .int .i64 8] 3)) _ [a1, 0, 0, 5, 6, 7, 8] (nums_new n2 rfl (show 7 ≤ 20 by decide)))
  have K3 := Lib.hid ((Kept.refl v1).alloc (.cells #[.int .i64 a1, .int .i64 0, .int .i64 0, .int .i64 5, .int .i64 6, .int .i64 7, .int .i64 8] 3))
  clear n2
  go_upto_region 3 with (go_at_call 9; refine (HB2.out).mono ?_; rintro e2 v3 ⟨pm2, pr2, rfl, H3⟩)
  clear HB2
  have K4 := Lib.hid (K3.out.trans H3.out.keep0)
  go_upto_region 6 with (go_at_call 10; refine (names_any _).mono ?_; rintro e3 v4 ⟨rfl, rfl⟩)
  obtain ⟨x0, x1, x2, kW⟩ := three_blocks v3 (.cells namesC 63) (.cells namesC 63) (.cells #[.pointer (some ⟨pm, 0, none⟩), .slice (some ⟨v3.heap.size, 0, none⟩) 4 4, .pointer (some ⟨pm2, 0, none⟩), .slice (some ⟨v3.heap.size + 1, 0, none⟩) 4 4, .int .i64 0, .int .i64 0] 33)
  generalize (((v3.alloc (.cells namesC 63)).alloc (.cells namesC 63)).alloc (.cells #[.pointer (some ⟨pm, 0, none⟩), .slice (some ⟨v3.heap.size, 0, none⟩) 4 4, .pointer (some ⟨pm2, 0, none⟩), .slice (some ⟨v3.heap.size + 1, 0, none⟩) 4 4, .int .i64 0, .int .i64 0] 33)) = W at *
  rw [show v3.heap.size + 2 = v3.heap.size + 1 + 1 from rfl] at x2
  generalize v3.heap.size = nb at *
  obtain ⟨L, hL, hm1⟩ := mem_is H1.out (K4.out.trans kW)
  obtain ⟨O, hO, hm2⟩ := mem_is H3.out kW
  have HE := Lib.hid (show EnvAt W _ _ _ _ (lawE L (some O) namesL 0 0) from ⟨hm1, names_at x0, hm2, names_at x1⟩)
  have HF := Lib.hid (fun w' (hk : Kept W w') => (And.intro (bx_cell (kh x2 hk) 0 _ rfl) (And.intro (bx_cell (kh x2 hk) 1 _ rfl) (And.intro (bx_cell (kh x2 hk) 2 _ rfl) (And.intro (bx_cell (kh x2 hk) 3 _ rfl) (And.intro (bx_cell (kh x2 hk) 4 _ rfl) (bx_cell (kh x2 hk) 5 _ rfl)))))))
  have KW := Lib.hid ((K2.out.trans K4.out).trans kW)
  have HN1 := Lib.hid (fun w' => nodes_ok ⟨#[111, 108, 100, 32, 40, 32, 120, 32, 41, 32, 45, 32, 120]⟩ tOx w' (by decide) tOx_read (by decide))
  have HV1 := Lib.hid (fun w' (hk : Kept W w') v (hl : ListAt w' v tOx.x) => Value_any hl (HE.out.kept hk) down_ox 3)
  have hox := ox_any L O a0 a1 hx hy hL hO
  have HG := Lib.hid (And.intro hL hO)
  generalize valA tOx.x (lawE L (some O) namesL 0 0) (3, 0) = V at *
  rw [hox] at HV1
  unfold envVal at HV1
  simp only [lawE] at HV1
  clear x0 x1 x2 kW hm1 hm2 hL hO hox K1 K2 K3 K4 H1 H3
  obtain ⟨c0, c1, c2, c3, c4, c5⟩ := HF.out _ (Kept.refl W)
  go_region_held3 (fun w' => w'.cell? ⟨nb + 1 + 1, 0, none⟩ = some (.pointer (some ⟨pm, 0, none⟩)) ∧ w'.cell? ⟨nb + 1 + 1, 1, none⟩ = some (.slice (some ⟨nb, 0, none⟩) 4 4) ∧ w'.cell? ⟨nb + 1 + 1, 2, none⟩ = some (.pointer (some ⟨pm2, 0, none⟩)) ∧ w'.cell? ⟨nb + 1 + 1, 3, none⟩ = some (.slice (some ⟨nb + 1, 0, none⟩) 4 4) ∧ w'.cell? ⟨nb + 1 + 1, 4, none⟩ = some (.int .i64 0) ∧ w'.cell? ⟨nb + 1 + 1, 5, none⟩ = some (.int .i64 0))
    (first | exact ⟨c0, c1, c2, c3, c4, c5⟩ | go_keep | exact CC.out)
    ((first | (go_at_call 8; refine (HN1.out _).mono ?_; rintro e4 v4 ⟨l4, rfl, H4⟩; have K5 := Lib.hid ((Kept.refl W).drew.trans H4.out.1); have CC := Lib.hid (HF.out _ K5.out)) | (go_at_call 11; refine (HV1.out _ K5.out _ H4.out.2).mono ?_; rintro e5 v5 ⟨rfl, k5⟩; have K6 := Lib.hid (K5.out.trans k5); clear k5 CC; have CC := Lib.hid (HF.out _ K6.out))))
  clear c0 c1 c2 c3 c4 c5 CC H4 HN1 HV1
  have HD := Lib.hid (fun wx => Lex.Digits_one k wx (by omega))
  go_upto_region 8 with (first | (go_at_call 15; refine (HD.out _).mono ?_; rintro e6 v6 ⟨S, rfl, hS, H6⟩; have HN2 : Hid (∀ wx, Calls Try.prog 8 #[.string (((⟨#[111, 108, 100, 32, 40, 32, 103, 97, 32, 91, 32]⟩ : ByteArray) ++ S) ++ (⟨#[32, 93, 32, 41]⟩ : ByteArray))] wx fun x w' => ∃ v, x = .returned v ∧ Hid (Kept wx w' ∧ ListAt w' v (tGa k).x)) := (Lib.hid (fun wx => by rw [H6.out.1]; exact nodes_ok _ (tGa k) wx (by simp; show 11 + 1 + 4 ≤ 8000; decide) (tGa_read k hk9) (show 3 ≤ 8193 by decide)))) | (go_at_call 8; refine (HN2.out _).mono ?_; rintro e7 v7 ⟨l7, rfl, H7⟩))
  have K7 := Lib.hid (K6.out.trans (H6.out.2.trans H7.out.1))
  have HL7 := Lib.hid H7.out.2
  obtain ⟨lb, lcap, hl7, hlc, hlm, hlf⟩ := HL7.out.place (i := 1) (show 1 < 3 by decide)
  have hl7' : l7 = .slice (some ⟨lb, 0, none⟩) 3 lcap := hl7
  have hlc' : 3 ≤ lcap := hlc
  subst hl7'
  have HP := Lib.hid (fun w' (hk : Kept v7 w') => (show w'.cell? ⟨lb, 1 * 7 + 6, none⟩ = some (.int .i64 6) from hlf w' hk))
  clear hl7 hlc hlf H6 H7 HN2 HD
  have HV2 := Lib.hid (Value_any HL7.out (HE.out.kept K7.out) (down_ga k) 2)
  unfold envVal at HV2
  simp only [lawE] at HV2
  obtain ⟨c0, c1, c2, c3, c4, c5⟩ := HF.out _ K7.out
  have HA := Lib.hid (fun wx => awake_any wx)
  by_cases hk3 : 3 < k
  · have hgo : valA (tGa k).x ⟨some L, namesL, some O, namesL, 0, 0⟩ (2, 0) = ⟨0, 3, 4, 6⟩ := ga_out k hk3 L O
    rw [hgo] at HV2
    have hkb : decide ((3 : Int) < (k : Int)) = true := by simp; omega
    clear hgo
    go_upto_region 13 with (go_at_call 11; refine (HV2.out).mono ?_; rintro e8 v8 ⟨rfl, k8⟩; have K8 := Lib.hid (K7.out.trans k8); have HP6 := HP.out _ k8; clear k8)
    go_wp2_with (go_at_call 7; refine (HA.out _).mono ?_; rintro e9 v9 ⟨rfl, H9⟩)
    go_ret
    exact ⟨rfl, KW.out.trans (K8.out.trans H9.out)⟩
  · have hgo : valA (tGa k).x ⟨some L, namesL, some O, namesL, 0, 0⟩ (2, 0) = ⟨5 + k, 3, 0, 0⟩ := ga_in k (by omega) L O a1 HG.out.2
    rw [hgo] at HV2
    have hkb : decide ((3 : Int) < (k : Int)) = false := by simp; omega
    clear hgo
    go_upto_region 14 with (go_at_call 11; refine (HV2.out).mono ?_; rintro e8 v8 ⟨rfl, k8⟩; have K8 := Lib.hid (K7.out.trans k8); clear k8)
    go_wp2_with (go_at_call 7; refine (HA.out _).mono ?_; rintro e9 v9 ⟨rfl, H9⟩)
    go_ret
    exact ⟨rfl, KW.out.trans (K8.out.trans H9.out)⟩

/-! ### THE ROW's STEP: WRITTEN OUT: LEAVE IT -/
set_option maxRecDepth 100000 in
theorem lifted (os : Os) (started : os.Started) (H : Type) (enc : TypeId × Value → H) :
    ReturnsInHanded {} Try.checked os 6 .any (Rows.evalOldSpec.pre6 enc Try.prog Try.f6 Rows.evalOldRow.domain false) (Rows.evalOldSpec.post enc Try.prog Try.f6 false true false false) := by
  refine returnsInHanded_of_change (C := Try.checked) own started (by kernel_rfl) Try.func6
    (ChangeSpec.witness6 (enc := enc) (C := Try.checked) false ⟨#[], #[.int .i16 0, .int .i16 0, .int .u8 0], []⟩ 8 (by kernel_rfl) (by kernel_rfl) (by kernel_rfl) (by kernel_rfl)) ?_
  intro W base args ds gs before hval0 hW hcnd _
  have hval : ∀ (j : Nat) t v, Try.f6.params[j]? = some t → args[j]? = some v → Value.okWide Try.prog W .any base t v := hval0
  have hW' := hW
  obtain ⟨p, q, hA0, hV, rfl, hfz, hnd⟩ := hW
  have hA : DataW.TrodAll enc Try.prog W 0 (fun _ => true) true Try.f6.params.toList args.toList ds p := hA0
  rw [Try.params6] at hA hval
  obtain ⟨v0, vs0, d0, ds0, p0, q0, hargs, rfl, rfl, h0, r0⟩ := trodAll_cons hA
  obtain ⟨v1, vs1, d1, ds1, p1, q1, rfl, rfl, rfl, h1, r1⟩ := trodAll_cons r0
  obtain ⟨v2, vs2, d2, ds2, p2, q2, rfl, rfl, rfl, h2, r2⟩ := trodAll_cons r1
  obtain ⟨rfl, rfl, rfl⟩ := trodAll_nil r2
  obtain rfl : args = #[v0, v1, v2] := by cases args; simp_all
  obtain ⟨rfl, rfl⟩ := trodVars_none hV
  obtain ⟨a0, rfl, rfl, rfl, w0⟩ := open_int Try.underlying48 (hval 0 48 v0 rfl rfl) h0
  obtain ⟨a1, rfl, rfl, rfl, w1⟩ := open_int Try.underlying48 (hval 1 48 v1 rfl rfl) h1
  obtain ⟨a2, rfl, rfl, rfl, w2⟩ := open_int Try.underlying5 (hval 2 5 v2 rfl rfl) h2
  clear hA0 hval0
  simp only [List.append_nil] at hW'
  refine (walk a0 a1 a2 w0 w1 w2 W).mono fun e W' ⟨he, hg⟩ => ?_
  subst he
  exact ⟨_, rfl, post_kept hW' (fun _ _ _ => (trodAll_cons_mk (shut_bool Try.underlying4 _) trodAll_mk0)) (fun sp => (trodAll_cons_mk (shut_int Try.underlying48 w0) (trodAll_cons_mk (shut_int Try.underlying48 w1) (trodAll_cons_mk (shut_int Try.underlying5 w2) trodAll_mk0)))) (fun _ => rfl) hg⟩

theorem over : Rows.evalOldRow.holds Try.pinned (OpenSpec.ofChange Rows.evalOldSpec) :=
  OpenClaim.holds_of_wide 6 Try.f6 rfl rfl rfl rfl rfl rfl rfl ⟨rfl, rfl, rfl, rfl, rfl⟩ rfl rfl rfl rfl rfl (by kernel_rfl) Try.func6 (by kernel_rfl)
    (of_decide_eq_true (by kernel_rfl)) (by unfold Func.isWrapper; first | (rw [if_pos (by decide +kernel)]; kernel_rfl) | (rw [if_neg (by decide +kernel)]; exact ⟨rfl, rfl⟩))
    (fun os started H enc _ => lifted os started H enc)

/-- ████ THE STATEMENT ████ -/
theorem proved : Rows.EvalOldSaid :=
  over
#print axioms proved
end Go.Proofs.Ytnlkcjbnmkpnhaa.evalOld
