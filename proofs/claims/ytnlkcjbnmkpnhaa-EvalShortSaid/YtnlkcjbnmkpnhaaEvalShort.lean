/-
  Proved: the statement 'EvalShortSaid' of the seat: for every input that law returns true, and each argument reads afterwards as it read before. No condition of ours.
  The frame is the guide's shell; the walk and the contracts that it uses are ours.
-/
import Derived.Test.YtnlkcjbnmkpnhaaRows
import Derived.WalkKit
import Derived.ProofKit
import Derived.OpenShut
import Derived.Test.YtnlkcjbnmkpnhaaBase
import Derived.Test.YtnlkcjbnmkpnhaaEvTop
import Derived.ShutString
namespace Go.Proofs.Ytnlkcjbnmkpnhaa.evalShort
open Go.ChangeShapes Go.WideShapes Go.ChangeAt Go.RowKit
open Go.ChangeMaps (open_string shut_string)
set_option linter.unusedVariables false      -- a walk need not use every 'w<i>' (that an integer argument fits its kind)

theorem own : ownKnob Try.prog.godebug = none := by kernel_rfl

open Evl
open Fnd (bx_cell bx_froz)
open Mem (Bk MemAt St tv)

/-! ### STEP 1: THE WALK: the Go text returns true. 'Kept w w'': nothing that was there has changed. Part the cases AHEAD of 'go_enter' where a test parts the walk; take each callee by a contract of your own. -/
set_option maxRecDepth 100000 in
set_option maxHeartbeats 4000000 in
theorem walk (a0 : Int) (a1 : Bool) (w0 : (Lit.int .u8 a0).wf = true) (w : World) :
    Calls Try.prog 4 #[.int .u8 a0, .bool a1] w fun e w' => e = .returned (.bool true) ∧ Kept w w' := by
  have hc := bounds_u8 w0
  obtain ⟨x, hx0, hx20, hx⟩ : ∃ x : Int, 0 ≤ x ∧ x < 20 ∧ a0 % 20 = x := ⟨_, by omega, by omega, rfl⟩
  have HA := Lib.hid (fun wx => awake_any wx)
  cases a1
  case' true =>
    have HC := Lib.hid (fun wx => Rpr.Cond_ok (s := ((⟨#[120, 32, 62, 32, 57, 32]⟩ : ByteArray) ++ (⟨#[111, 114]⟩ : ByteArray)) ++ (⟨#[32, 49, 32, 47, 32, 48, 32, 61, 61, 32, 49]⟩ : ByteArray)) wx (by decide) or_read)
    have HS := Lib.hid (fun (L : List Bk) (hL : L.map tv = bothF [x]) => sh_val 9 4 (.inr rfl) hL (by omega))
    have HD := Lib.hid (downA_sh 9 4)
    have HZ := Lib.hid (small_sh 9 4)
  case' false =>
    have HC := Lib.hid (fun wx => Rpr.Cond_ok (s := ((⟨#[120, 32, 62, 32, 57, 32]⟩ : ByteArray) ++ (⟨#[97, 110, 100]⟩ : ByteArray)) ++ (⟨#[32, 49, 32, 47, 32, 48, 32, 61, 61, 32, 49]⟩ : ByteArray)) wx (by decide) and_read)
    have HS := Lib.hid (fun (L : List Bk) (hL : L.map tv = bothF [x]) => sh_val 10 3 (.inl rfl) hL (by omega))
    have HD := Lib.hid (downA_sh 10 3)
    have HZ := Lib.hid (small_sh 10 3)
  all_goals
    by_cases h9 : 9 < x
    case' pos =>
      have hb9 : decide (9 < x) = true := by simpa using h9
    case' neg =>
      have hb9 : decide (9 < x) = false := by simpa using h9
  all_goals
    go_enter Try.func4, Try.ntmps4
    go_upto_region 5 with (go_at_call 13; refine (HC.out _).mono ?_; rintro e1 v1 ⟨lv, rfl, H1⟩)
    have HL1 := Lib.hid (conds_at H1.out.2 (show 3 ≤ 8193 by decide) HZ.out)
    obtain ⟨la, lc, hl⟩ := HL1.out.form
    have hl' : lv = .slice la 3 lc := hl
    subst hl'
    have K1 := Lib.hid H1.out.1
    clear hl H1 HC HZ
    have n1 := World.alloc_heap_new v1 (.cells #[.int .i64 x] 3)
    have HB1 := Lib.hid (both_any (v1.alloc (.cells #[.int .i64 x] 3)) _ [x] (nums_new n1 rfl (show 1 ≤ 20 by decide)))
    have K2 := Lib.hid (K1.out.alloc (.cells #[.int .i64 x] 3))
    have K12 := Lib.hid ((Kept.refl v1).alloc (.cells #[.int .i64 x] 3))
    clear n1
    go_upto_region 8 with (go_at_call 9; refine (HB1.out).mono ?_; rintro e2 v2 ⟨pm, pr, rfl, H2⟩)
    clear HB1
    have x0 := World.alloc_heap_new v2 (.cells namesC 63)
    have kW := (Kept.refl v2).alloc (.cells namesC 63)
    obtain ⟨L, hL, hm1⟩ := mem_is H2.out kW
    have HE := Lib.hid (show EnvAt (v2.alloc (.cells namesC 63)) _ _ (.pointer none) (.slice none 0 0) (lawE L none [] 0 0) from ⟨hm1, names_at x0, .inl ⟨rfl, rfl⟩, binds_nil _⟩)
    have KW := Lib.hid ((K2.out.trans H2.out.keep0).trans kW)
    have HT := Lib.hid (Test_any (HL1.out.kept ((K12.out.trans H2.out.keep0).trans kW)) HE.out HD.out 2)
    rw [HS.out L hL, hb9] at HT
    first | rw [if_pos (by decide)] at HT | rw [if_neg (by decide)] at HT
    unfold envVal at HT
    simp only [lawE] at HT
    clear x0 kW hm1 hL HS H2 K12
    go_upto_region 9 with (first | (go_at_call 10; refine (names_any _).mono ?_; rintro e3 v3 ⟨rfl, rfl⟩) | (go_at_call 14; refine (HT.out).mono ?_; rintro e4 v4 ⟨rfl, k4⟩; have K4 := Lib.hid (KW.out.trans k4); clear k4))
    go_wp2_with (go_at_call 7; refine (HA.out _).mono ?_; rintro e9 v9 ⟨rfl, H9⟩)
    go_ret
    exact ⟨rfl, K4.out.trans H9.out⟩

/-! ### THE ROW's STEP: WRITTEN OUT: LEAVE IT -/
set_option maxRecDepth 100000 in
theorem lifted (os : Os) (started : os.Started) (H : Type) (enc : TypeId × Value → H) :
    ReturnsInHanded {} Try.checked os 4 .any (Rows.evalShortSpec.pre6 enc Try.prog Try.f4 Rows.evalShortRow.domain false) (Rows.evalShortSpec.post enc Try.prog Try.f4 false true false false) := by
  refine returnsInHanded_of_change (C := Try.checked) own started (by kernel_rfl) Try.func4
    (ChangeSpec.witness6 (enc := enc) (C := Try.checked) false ⟨#[], #[.int .u8 0, .bool false], []⟩ 8 (by kernel_rfl) (by kernel_rfl) (by kernel_rfl) (by kernel_rfl)) ?_
  intro W base args ds gs before hval0 hW hcnd _
  have hval : ∀ (j : Nat) t v, Try.f4.params[j]? = some t → args[j]? = some v → Value.okWide Try.prog W .any base t v := hval0
  have hW' := hW
  obtain ⟨p, q, hA0, hV, rfl, hfz, hnd⟩ := hW
  have hA : DataW.TrodAll enc Try.prog W 0 (fun _ => true) true Try.f4.params.toList args.toList ds p := hA0
  rw [Try.params4] at hA hval
  obtain ⟨v0, vs0, d0, ds0, p0, q0, hargs, rfl, rfl, h0, r0⟩ := trodAll_cons hA
  obtain ⟨v1, vs1, d1, ds1, p1, q1, rfl, rfl, rfl, h1, r1⟩ := trodAll_cons r0
  obtain ⟨rfl, rfl, rfl⟩ := trodAll_nil r1
  obtain rfl : args = #[v0, v1] := by cases args; simp_all
  obtain ⟨rfl, rfl⟩ := trodVars_none hV
  obtain ⟨a0, rfl, rfl, rfl, w0⟩ := open_int Try.underlying5 (hval 0 5 v0 rfl rfl) h0
  obtain ⟨a1, rfl, rfl, rfl⟩ := open_bool Try.underlying4 (hval 1 4 v1 rfl rfl) h1
  clear hA0 hval0
  simp only [List.append_nil] at hW'
  refine (walk a0 a1 w0 W).mono fun e W' ⟨he, hg⟩ => ?_
  subst he
  exact ⟨_, rfl, post_kept hW' (fun _ _ _ => (trodAll_cons_mk (shut_bool Try.underlying4 _) trodAll_mk0)) (fun sp => (trodAll_cons_mk (shut_int Try.underlying5 w0) (trodAll_cons_mk (shut_bool Try.underlying4 _) trodAll_mk0))) (fun _ => rfl) hg⟩

theorem over : Rows.evalShortRow.holds Try.pinned (OpenSpec.ofChange Rows.evalShortSpec) :=
  OpenClaim.holds_of_wide 4 Try.f4 rfl rfl rfl rfl rfl rfl rfl ⟨rfl, rfl, rfl, rfl, rfl⟩ rfl rfl rfl rfl rfl (by kernel_rfl) Try.func4 (by kernel_rfl)
    (of_decide_eq_true (by kernel_rfl)) (by unfold Func.isWrapper; first | (rw [if_pos (by decide +kernel)]; kernel_rfl) | (rw [if_neg (by decide +kernel)]; exact ⟨rfl, rfl⟩))
    (fun os started H enc _ => lifted os started H enc)

/-- ████ THE STATEMENT ████ -/
theorem proved : Rows.EvalShortSaid :=
  over
#print axioms proved
end Go.Proofs.Ytnlkcjbnmkpnhaa.evalShort
