/-
  Proved: the statement 'ArithBitsSaid' of the seat: for every input that law returns true, and each argument reads afterwards as it read before. No condition of ours.
  The frame is the guide's shell; the walk and the contracts that it uses are ours.
-/
import Derived.Test.YtkdojloabigfiaaRows
import Derived.WalkKit
import Derived.ProofKit
import Derived.OpenShut
import Derived.Test.YtkdojloabigfiaaBase
import Derived.Test.YtkdojloabigfiaaAriC
import Derived.Test.YtkdojloabigfiaaAriD
import Derived.Deep.QuietTactic
import Derived.BigQuiet
import Derived.ShutString
namespace Go.Proofs.Ytkdojloabigfiaa.arithBits
open Go.ChangeShapes Go.WideShapes Go.ChangeAt Go.RowKit
open Go.ChangeMaps (open_string shut_string)
set_option linter.unusedVariables false      -- a walk need not use every 'w<i>' (that an integer argument fits its kind)

theorem own : ownKnob Try.prog.godebug = none := by kernel_rfl

open Typ

/-! ### STEP 1: THE WALK: the Go text returns true. 'Kept w w'': nothing that was there has changed. Part the cases AHEAD of 'go_enter' where a test parts the walk; take each callee by a contract of your own. -/
set_option maxRecDepth 100000 in
set_option maxHeartbeats 4000000 in
theorem walk (a0 : Int) (a1 : Int) (a2 : Int) (a3 : Int) (w0 : (Lit.int .i32 a0).wf = true) (w1 : (Lit.int .i32 a1).wf = true) (w2 : (Lit.int .u32 a2).wf = true) (w3 : (Lit.int .u32 a3).wf = true) (w : World) :
    Calls Try.prog 8 #[.int .i32 a0, .int .i32 a1, .int .u32 a2, .int .u32 a3] w fun e w' => e = .returned (.bool true) ∧ Kept w w' := by
  have hx := bounds_i32 w0
  have hy := bounds_i32 w1
  have hc := bounds_u32 w2
  have hd := bounds_u32 w3
  have c1 : bits .xor .i32 (if IntKind.i32.signed = true then -1 else IntKind.i32.max) a0 = -1 - a0 := com_32 a0 hx
  have c2 : bits .xor .u32 (if IntKind.u32.signed = true then -1 else IntKind.u32.max) a2 = 4294967295 - a2 := com_u32 a2 hc
  have c3 := com_32 a0 hx
  have c4 := com_u32 a2 hc
  obtain ⟨x1, hx1⟩ : ∃ x, bits .and .i32 a0 a1 = x := ⟨_, rfl⟩
  obtain ⟨x2, hx2⟩ : ∃ x, bits .or .i32 a0 a1 = x := ⟨_, rfl⟩
  obtain ⟨x3, hx3⟩ : ∃ x, bits .xor .i32 a0 a1 = x := ⟨_, rfl⟩
  obtain ⟨y1, hy1⟩ : ∃ x, bits .and .u32 a2 a3 = x := ⟨_, rfl⟩
  obtain ⟨y2, hy2⟩ : ∃ x, bits .or .u32 a2 a3 = x := ⟨_, rfl⟩
  obtain ⟨y3, hy3⟩ : ∃ x, bits .xor .u32 a2 a3 = x := ⟨_, rfl⟩
  have bx1 := bits_bd .and a0 a1
  have bx2 := bits_bd .or a0 a1
  have bx3 := bits_bd .xor a0 a1
  have by1 := bits_ubd .and a2 a3
  have by2 := bits_ubd .or a2 a3
  have by3 := bits_ubd .xor a2 a3
  rw [hx1] at bx1
  rw [hx2] at bx2
  rw [hx3] at bx3
  rw [hy1] at by1
  rw [hy2] at by2
  rw [hy3] at by3
  go_enter Try.func8, Try.ntmps8
  go_wp2
  go_loopw [12] (fun i wx => ∃ k n : Nat, k ≤ 3 ∧ i = .int .i64 k ∧ wx = (((w.alloc (.cells #[.int .i64 x1, .int .i64 x2, .int .i64 x3] 3)).alloc (.cells #[.int .i64 y1, .int .i64 y2, .int .i64 y3] 3)).alloc (.cells #[.int .i64 13, .int .i64 14, .int .i64 15] 3)).drewN n) (fun i _ => 3 - (intOf i).toNat)
  case atStart => exact ⟨0, 0, by omega, rfl, rfl⟩
  case round =>
    obtain ⟨k, n, hk, rfl, rfl⟩ := hrel
    rcases (show k = 0 ∨ k = 1 ∨ k = 2 ∨ k = 3 by omega) with rfl | rfl | rfl | rfl
    · obtain ⟨e1, e2⟩ := bit5 (k := 13) (op := .and) (a := a0) (b := a1) (by simp) hx hy
      obtain ⟨e3, e4⟩ := bit6 (k := 13) (op := .and) (a := a2) (b := a3) (by simp) hc hd
      rw [hx1] at e1
      rw [hy1] at e3
      go_wp2_with (first | (go_at_call 9; refine (do_any _ _ _ _ _).mono ?_; rintro e w' ⟨rfl, rfl⟩) | (go_at_call 13; refine (awake_any _).mono ?_; rintro e w' ⟨rfl, rfl⟩))
      exact ⟨⟨1, n, by omega, rfl, rfl⟩, by simp [intOf]⟩
    · obtain ⟨e1, e2⟩ := bit5 (k := 14) (op := .or) (a := a0) (b := a1) (by simp) hx hy
      obtain ⟨e3, e4⟩ := bit6 (k := 14) (op := .or) (a := a2) (b := a3) (by simp) hc hd
      rw [hx2] at e1
      rw [hy2] at e3
      go_wp2_with (first | (go_at_call 9; refine (do_any _ _ _ _ _).mono ?_; rintro e w' ⟨rfl, rfl⟩) | (go_at_call 13; refine (awake_any _).mono ?_; rintro e w' ⟨rfl, rfl⟩))
      exact ⟨⟨2, n, by omega, rfl, rfl⟩, by simp [intOf]⟩
    · obtain ⟨e1, e2⟩ := bit5 (k := 15) (op := .xor) (a := a0) (b := a1) (by simp) hx hy
      obtain ⟨e3, e4⟩ := bit6 (k := 15) (op := .xor) (a := a2) (b := a3) (by simp) hc hd
      rw [hx3] at e1
      rw [hy3] at e3
      go_wp2_with (first | (go_at_call 9; refine (do_any _ _ _ _ _).mono ?_; rintro e w' ⟨rfl, rfl⟩) | (go_at_call 13; refine (awake_any _).mono ?_; rintro e w' ⟨rfl, rfl⟩))
      exact ⟨⟨3, n, by omega, rfl, rfl⟩, by simp [intOf]⟩
    · obtain ⟨e1, e2⟩ := (low5 (k := 7) (a := a0) (b := 0) (v := -1 - a0) (by omega) (by omega) hx (by omega) (by unfold exV; simp)).1 (by omega)
      obtain ⟨e3, e4⟩ := low6 (k := 7) (a := a2) (b := 0) (v := 4294967295 - a2) (by omega) (by omega) hc (by omega) (by unfold exV wrapF; simp; omega)
      obtain ⟨z1, hz1, hb1⟩ : ∃ z : Int, -1 - a0 = z ∧ -2147483648 ≤ z ∧ z ≤ 2147483647 := ⟨_, rfl, by omega, by omega⟩
      obtain ⟨z2, hz2, hb2⟩ : ∃ z : Int, 4294967295 - a2 = z ∧ 0 ≤ z ∧ z ≤ 4294967295 := ⟨_, rfl, by omega, by omega⟩
      rw [hz1] at c1 c3 e1
      rw [hz2] at c2 c4 e3
      clear hz1 hz2 bx1 bx2 bx3 by1 by2 by3 hx1 hx2 hx3 hy1 hy2 hy3
      go_wp2_with (first | (go_at_call 9; refine (do_any _ _ _ _ _).mono ?_; rintro e w' ⟨rfl, rfl⟩) | (go_at_call 13; refine (awake_any _).mono ?_; rintro e w' ⟨rfl, rfl⟩))
      go_ret
      exact ⟨rfl, by repeat (first | exact Kept.refl _ | apply Kept.drewN | apply Kept.drew | apply Kept.alloc)⟩

/-! ### THE ROW's STEP: WRITTEN OUT: LEAVE IT -/
set_option maxRecDepth 100000 in
theorem lifted (os : Os) (started : os.Started) (H : Type) (enc : TypeId × Value → H) :
    ReturnsInHanded {} Try.checked os 8 .any (Rows.arithBitsSpec.pre6 enc Try.prog Try.f8 Rows.arithBitsRow.domain false) (Rows.arithBitsSpec.post enc Try.prog Try.f8 false true false false) := by
  refine returnsInHanded_of_change (C := Try.checked) own started (by kernel_rfl) Try.func8
    (ChangeSpec.witness6 (enc := enc) (C := Try.checked) false ⟨#[], #[.int .i32 0, .int .i32 0, .int .u32 0, .int .u32 0], []⟩ 8 (by kernel_rfl) (by kernel_rfl) (by kernel_rfl) (by kernel_rfl)) ?_
  intro W base args ds gs before hval0 hW hcnd _
  have hval : ∀ (j : Nat) t v, Try.f8.params[j]? = some t → args[j]? = some v → Value.okWide Try.prog W .any base t v := hval0
  have hW' := hW
  obtain ⟨p, q, hA0, hV, rfl, hfz, hnd⟩ := hW
  have hA : DataW.TrodAll enc Try.prog W 0 (fun _ => true) true Try.f8.params.toList args.toList ds p := hA0
  rw [Try.params8] at hA hval
  obtain ⟨v0, vs0, d0, ds0, p0, q0, hargs, rfl, rfl, h0, r0⟩ := trodAll_cons hA
  obtain ⟨v1, vs1, d1, ds1, p1, q1, rfl, rfl, rfl, h1, r1⟩ := trodAll_cons r0
  obtain ⟨v2, vs2, d2, ds2, p2, q2, rfl, rfl, rfl, h2, r2⟩ := trodAll_cons r1
  obtain ⟨v3, vs3, d3, ds3, p3, q3, rfl, rfl, rfl, h3, r3⟩ := trodAll_cons r2
  obtain ⟨rfl, rfl, rfl⟩ := trodAll_nil r3
  obtain rfl : args = #[v0, v1, v2, v3] := by cases args; simp_all
  obtain ⟨rfl, rfl⟩ := trodVars_none hV
  obtain ⟨a0, rfl, rfl, rfl, w0⟩ := open_int Try.underlying21 (hval 0 21 v0 rfl rfl) h0
  obtain ⟨a1, rfl, rfl, rfl, w1⟩ := open_int Try.underlying21 (hval 1 21 v1 rfl rfl) h1
  obtain ⟨a2, rfl, rfl, rfl, w2⟩ := open_int Try.underlying27 (hval 2 27 v2 rfl rfl) h2
  obtain ⟨a3, rfl, rfl, rfl, w3⟩ := open_int Try.underlying27 (hval 3 27 v3 rfl rfl) h3
  clear hA0 hval0
  simp only [List.append_nil] at hW'
  refine (walk a0 a1 a2 a3 w0 w1 w2 w3 W).mono fun e W' ⟨he, hg⟩ => ?_
  subst he
  exact ⟨_, rfl, post_kept hW' (fun _ _ _ => (trodAll_cons_mk (shut_bool Try.underlying4 _) trodAll_mk0)) (fun sp => (trodAll_cons_mk (shut_int Try.underlying21 w0) (trodAll_cons_mk (shut_int Try.underlying21 w1) (trodAll_cons_mk (shut_int Try.underlying27 w2) (trodAll_cons_mk (shut_int Try.underlying27 w3) trodAll_mk0))))) (fun _ => rfl) hg⟩

theorem over : Rows.arithBitsRow.holds Try.pinned (OpenSpec.ofChange Rows.arithBitsSpec) :=
  OpenClaim.holds_of_wide 8 Try.f8 rfl rfl rfl rfl rfl rfl rfl ⟨rfl, rfl, rfl, rfl, rfl⟩ rfl rfl rfl rfl rfl (by kernel_rfl) Try.func8 (by kernel_rfl)
    (of_decide_eq_true (by kernel_rfl)) (by unfold Func.isWrapper; first | (rw [if_pos (by decide +kernel)]; kernel_rfl) | (rw [if_neg (by decide +kernel)]; exact ⟨rfl, rfl⟩))
    (fun os started H enc _ => lifted os started H enc)

/-- ████ THE STATEMENT ████ -/
theorem proved : Rows.ArithBitsSaid :=
  over
#print axioms proved
end Go.Proofs.Ytkdojloabigfiaa.arithBits
