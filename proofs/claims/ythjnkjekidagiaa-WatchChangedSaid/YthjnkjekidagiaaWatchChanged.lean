/-
  Proved: the statement 'WatchChangedSaid' of the seat: for every input that law returns true, and each argument reads afterwards as it read before. No condition of ours.
  The frame follows the guide's shell; the walk and the contracts that it uses are ours.
-/
import Derived.Test.YthjnkjekidagiaaRows
import Derived.WalkKit
import Derived.ProofKit
import Derived.OpenShut
import Derived.Test.YthjnkjekidagiaaBase
import Derived.Test.YthjnkjekidagiaaOpen
import Derived.Test.YthjnkjekidagiaaWchTop
import Derived.Deep.CutBlock
import Derived.Deep.CutRange
import Derived.ShutString
import Derived.ChangeOld
import Derived.Below
namespace Go.Proofs.Ythjnkjekidagiaa.watchChanged
open Go.ChangeShapes Go.WideShapes Go.ChangeAt Go.RowKit
open Go.ChangeMaps (open_string shut_string)
set_option linter.unusedVariables false

theorem own : ownKnob Try.prog.godebug = none := by kernel_rfl
theorem laidOut : laidOutB Try.prog = true := by kernel_rfl

/-- A slice of integers that came in: nil; or a row of cap cells, the numbers zs, each fitting its kind. -/
def IsRow (k : IntKind) (w : World) (a : Option Addr) (len cap : Nat) (zs : List Int) : Prop :=
  (a = none ∧ len = 0 ∧ cap = 0 ∧ zs = []) ∨
  ∃ x, a = some x ∧ len ≤ cap ∧ cap ≤ maxLen ∧ zs.length = cap ∧ (∀ i, i < zs.length → w.cell? (x.add i) = some (.int k (zs.getD i 0))) ∧ ∀ n ∈ zs, (Lit.int k n).wf = true

open Mem
open Evl (bothF NumsAt both_any)
open Wch

/-- A row of numbers that came in: as a list of numbers. -/
theorem ints_in {w : World} {a : Option Addr} {len cap : Nat} {z : List Int} (h : IsRow .i64 w a len cap z) : ∃ l : List Int, l.length = len ∧ IntsAt w (.slice a len cap) l := by
  rcases h with ⟨rfl, rfl, rfl, rfl⟩ | ⟨x, rfl, h2, h3, h4, h5, h6⟩
  · exact ⟨[], rfl, .inl ⟨rfl, rfl⟩⟩
  · have hl : (z.take len).length = len := by rw [List.length_take]; omega
    refine ⟨z.take len, hl, .inr ⟨x, cap, by rw [hl], by rw [hl]; exact h2, h3, fun j hj => ?_⟩⟩
    have hj' : j < z.length := by omega
    have e1 : (z.take len)[j] = z[j] := List.getElem_take
    have e2 : z.getD j 0 = z[j] := by rw [List.getD_eq_getElem?_getD, List.getElem?_eq_getElem hj']; rfl
    have h7 := h5 j hj'
    rw [e2] at h7
    rw [e1]
    refine ⟨?_, h7, h6 _ (List.getElem_mem hj')⟩
    unfold World.cell? at h7
    by_cases hb : (x.add j).block < w.heap.size
    · exact hb
    · rw [Array.getElem?_eq_none (by omega)] at h7; simp at h7
theorem nums_in {w : World} {v : Value} {l : List Int} (h : IntsAt w v l) (hl : l.length ≤ 20) : NumsAt w v l := by
  refine ⟨hl, ?_⟩
  rcases h with h | ⟨x, c, h1, h2, h3, h4⟩
  · exact .inl h
  · exact .inr ⟨x, c, h1, h2, h3, fun j hj => ⟨(h4 j hj).1, (h4 j hj).2.1⟩⟩
theorem nums_kept {w w' : World} {v : Value} {l : List Int} (h : NumsAt w v l) (hk : Kept w w') : NumsAt w' v l := by
  refine ⟨h.1, ?_⟩
  rcases h.2 with h | ⟨x, c, h1, h2, h3, h4⟩
  · exact .inl h
  · exact .inr ⟨x, c, h1, h2, h3, fun j hj => ⟨Nat.lt_of_lt_of_le (h4 j hj).1 hk.size, (World.cell?_of_block (a := x.add j) (hk.block (x.add j).block (h4 j hj).1)).trans (h4 j hj).2⟩⟩

/-! The walk: the Go text returns true and writes nothing that was there. -/
set_option maxRecDepth 100000 in
set_option maxHeartbeats 4000000 in
theorem walk (a0 : Option Addr) (len0 cap0 : Nat) (z0 : List Int) (a1 : Option Addr) (len1 cap1 : Nat) (z1 : List Int) (a2 : Option Addr) (len2 cap2 : Nat) (z2 : List Int) (a3 : Option Addr) (len3 cap3 : Nat) (z3 : List Int) (a4 : Int) (w : World) (w0 : IsRow .i64 w a0 len0 cap0 z0) (w1 : IsRow .i64 w a1 len1 cap1 z1) (w2 : IsRow .i64 w a2 len2 cap2 z2) (w3 : IsRow .i64 w a3 len3 cap3 z3) (w4 : (Lit.int .u8 a4).wf = true) :
    Calls Try.prog 3 #[.slice a0 len0 cap0, .slice a1 len1 cap1, .slice a2 len2 cap2, .slice a3 len3 cap3, .int .u8 a4] w fun e w' => e = .returned (.bool true) ∧ Below w.heap.size w w' := by
  have hb4 := bounds_u8 w4
  obtain ⟨l0, h0, i0⟩ := ints_in w0
  obtain ⟨l1, h1, i1⟩ := ints_in w1
  obtain ⟨l2, h2, i2⟩ := ints_in w2
  obtain ⟨l3, h3, i3⟩ := ints_in w3
  have HI0 := Lib.hid i0
  have HI1 := Lib.hid i1
  have HI2 := Lib.hid i2
  have HI3 := Lib.hid i3
  clear w0 w1 w2 w3 w4 i0 i1 i2 i3 z0 z1 z2 z3
  by_cases hbig : 20 < len0 ∨ 20 < len1 ∨ 20 < len2 ∨ 20 < len3
  · have hb : (20 < len0) ∨ (¬ 20 < len0 ∧ 20 < len1) ∨ (¬ 20 < len0 ∧ ¬ 20 < len1 ∧ 20 < len2) ∨ (¬ 20 < len0 ∧ ¬ 20 < len1 ∧ ¬ 20 < len2 ∧ 20 < len3) := by omega
    clear hbig HI0 HI1 HI2 HI3 h0 h1 h2 h3
    rcases hb with g1 | ⟨g1, g2⟩ | ⟨g1, g2, g3⟩ | ⟨g1, g2, g3, g4⟩
    all_goals
      go_enter Try.func3, Try.ntmps3
      go_wp2_with (first | (go_at_call 6; refine (awake_any _).mono ?_; rintro e w4 ⟨rfl, H4⟩))
      go_ret
      exact ⟨rfl, H4.out⟩
  obtain ⟨c, hc, hc9⟩ : ∃ c : Nat, a4 % 9 = c ∧ c < 9 := ⟨(a4 % 9).toNat, by omega, by omega⟩
  have hc' : a4.tmod 9 = c := by rw [Int.tmod_eq_emod_of_nonneg (by omega)]; exact hc
  have g0 : len0 ≤ 20 := by omega
  have g1 : len1 ≤ 20 := by omega
  have g2 : len2 ≤ 20 := by omega
  have g3 : len3 ≤ 20 := by omega
  have HB0 := Lib.hid (both_any w _ l0 (nums_in HI0.out (by omega)))
  have HB1 := Lib.hid (fun W hk => both_any W _ l1 (nums_kept (nums_in HI1.out (by omega)) hk))
  clear hbig h0 h1 h2 h3
  go_enter Try.func3, Try.ntmps3
  go_upto_region 4 with (go_at_call 7; refine (HB0.out).mono ?_; rintro e1 v1 ⟨pm, pr, rfl, H1⟩)
  go_upto_region 7 with (go_at_call 7; refine (HB1.out _ H1.out.keep0).mono ?_; rintro e2 v2 ⟨pn, ps, rfl, H2⟩)
  go_upto_region 8 with (go_at_call 8; refine (st_cut H2.out c).mono ?_; rintro e3 v3 ⟨rfl, H3⟩)
  go_upto_region 9 with (go_at_call 9; refine (st_rcut H3.out.1 (by simp [both_len]) c).mono ?_; rintro e4 v4 ⟨rfl, H4⟩)
  obtain ⟨vn, vs, Ln, Ls, k4, mn, en, ms, es, -⟩ := H4.out.1
  obtain ⟨vm, vr, Lm, Lr, k1, mm, em, mr, er, -⟩ := H1.out.kept k4
  have K4 := Lib.hid k1
  have C1 := Lib.hid (changed_any mm em (small_both _) mn en ((small_both _).take _) (HI2.out.kept k1) (HI3.out.kept k1))
  have C2 := Lib.hid (fun W (hk : Kept v4 W) => rchanged_any (mr.kept hk) er (small_both _) (ms.kept hk) es ((small_both _).take _) (HI2.out.kept (k1.trans hk)) (HI3.out.kept (k1.trans hk)))
  have C3 := Lib.hid (fun W (hk : Kept v4 W) => changed_any (mm.kept hk) em (small_both _) (mm.kept hk) em (small_both _) (HI2.out.kept (k1.trans hk)) (ints_nil W))
  have C4 := Lib.hid (fun W (hk : Kept v4 W) => rchanged_any (mr.kept hk) er (small_both _) (mr.kept hk) er (small_both _) (HI2.out.kept (k1.trans hk)) (ints_nil W))
  clear H1 H2 H3 H4 HB0 HB1 HI0 HI1 HI2 HI3 k4 mn en ms es k1 mm em mr er
  generalize chgR (difR (bothF l0) (List.take (c : Int).toNat (bothF l1))) l3 l2 = X1 at *
  generalize chgR (difR (bothF l0) (bothF l0)) [] l2 = X2 at *
  have M1 : Hid True := Lib.hid trivial
  have N1 : Hid True := Lib.hid trivial
  go_wp2_with (first | (go_at_call 10; clear M1; refine (C1.out).mono ?_; rintro e5 v5 ⟨rfl, k5⟩; have K5 := Lib.hid k5; clear k5; have M2 : Hid True := Lib.hid trivial) | (go_at_call 11; clear N1; refine (C2.out _ K5.out).mono ?_; rintro e6 v6 ⟨rfl, k6⟩; have K6 := Lib.hid (K5.out.trans k6); clear k6; have N2 : Hid True := Lib.hid trivial) | (go_at_call 10; clear M2; refine (C3.out _ K6.out).mono ?_; rintro e7 v7 ⟨rfl, k7⟩; have K7 := Lib.hid (K6.out.trans k7); clear k7) | (go_at_call 11; clear N2; refine (C4.out _ K7.out).mono ?_; rintro e8 v8 ⟨rfl, k8⟩; have K8 := Lib.hid (K7.out.trans k8); clear k8) | (go_at_call 6; refine (awake_any _).mono ?_; rintro e9 v9 ⟨rfl, H9⟩))
  go_ret
  exact ⟨rfl, (K4.out.trans K8.out).trans H9.out⟩

set_option maxRecDepth 100000 in
theorem lifted (os : Os) (started : os.Started) (H : Type) (enc : TypeId × Value → H) :
    ReturnsInHanded {} Try.checked os 3 .any (Rows.watchChangedSpec.pre6 enc Try.prog Try.f3 Rows.watchChangedRow.domain false) (Rows.watchChangedSpec.post enc Try.prog Try.f3 false true false false) := by
  refine returnsInHanded_of_change (C := Try.checked) own started (by kernel_rfl) Try.func3
    (ChangeSpec.witness6 (enc := enc) (C := Try.checked) false ⟨#[], #[.slice none 0 0, .slice none 0 0, .slice none 0 0, .slice none 0 0, .int .u8 0], []⟩ 8 (by kernel_rfl) (by kernel_rfl) (by kernel_rfl) (by kernel_rfl)) ?_
  intro W base args ds gs before hval0 hW hcnd _
  have hval : ∀ (j : Nat) t v, Try.f3.params[j]? = some t → args[j]? = some v → Value.okWide Try.prog W .any base t v := hval0
  have hW' := hW
  obtain ⟨p, q, hA0, hV, rfl, hfz, hnd⟩ := hW
  have hA : DataW.TrodAll enc Try.prog W 0 (fun _ => true) true Try.f3.params.toList args.toList ds p := hA0
  rw [Try.params3] at hA hval
  obtain ⟨v0, vs0, d0, ds0, p0, q0, hargs, rfl, rfl, h0, r0⟩ := trodAll_cons hA
  obtain ⟨v1, vs1, d1, ds1, p1, q1, rfl, rfl, rfl, h1, r1⟩ := trodAll_cons r0
  obtain ⟨v2, vs2, d2, ds2, p2, q2, rfl, rfl, rfl, h2, r2⟩ := trodAll_cons r1
  obtain ⟨v3, vs3, d3, ds3, p3, q3, rfl, rfl, rfl, h3, r3⟩ := trodAll_cons r2
  obtain ⟨v4, vs4, d4, ds4, p4, q4, rfl, rfl, rfl, h4, r4⟩ := trodAll_cons r3
  obtain ⟨rfl, rfl, rfl⟩ := trodAll_nil r4
  obtain rfl : args = #[v0, v1, v2, v3, v4] := by cases args; simp_all
  obtain ⟨rfl, rfl⟩ := trodVars_none hV
  obtain ⟨a0, len0, cap0, rfl⟩ := okWide_slice Try.underlying22 (hval 0 22 v0 rfl rfl)
  have k0 := h0
  have lt0 : ∀ x ∈ p0, x.block < W.heap.size := by obtain ⟨m, hm⟩ := k0; exact DataW.trod_lt m _ _ _ hm
  obtain ⟨z0, w0⟩ : ∃ zs, IsRow .i64 W a0 len0 cap0 zs := by
    obtain ⟨fuel, hf⟩ := h0
    rcases open_ints Try.underlying22 Try.underlying3 (by kernel_rfl) hf with ⟨hcs, _⟩ | ⟨x, l, c, zs, hcs, _, hl, hm, hz, _, hcell, hwz⟩
    · simp [Value.cells] at hcs
      obtain ⟨rfl, rfl, rfl⟩ := hcs
      exact ⟨[], .inl ⟨rfl, rfl, rfl, rfl⟩⟩
    · simp [Value.cells] at hcs
      obtain ⟨rfl, rfl, rfl⟩ := hcs
      exact ⟨zs, .inr ⟨_, rfl, hl, hm, by simpa using hz, hcell, hwz⟩⟩
  obtain ⟨a1, len1, cap1, rfl⟩ := okWide_slice Try.underlying22 (hval 1 22 v1 rfl rfl)
  have k1 := h1
  have lt1 : ∀ x ∈ p1, x.block < W.heap.size := by obtain ⟨m, hm⟩ := k1; exact DataW.trod_lt m _ _ _ hm
  obtain ⟨z1, w1⟩ : ∃ zs, IsRow .i64 W a1 len1 cap1 zs := by
    obtain ⟨fuel, hf⟩ := h1
    rcases open_ints Try.underlying22 Try.underlying3 (by kernel_rfl) hf with ⟨hcs, _⟩ | ⟨x, l, c, zs, hcs, _, hl, hm, hz, _, hcell, hwz⟩
    · simp [Value.cells] at hcs
      obtain ⟨rfl, rfl, rfl⟩ := hcs
      exact ⟨[], .inl ⟨rfl, rfl, rfl, rfl⟩⟩
    · simp [Value.cells] at hcs
      obtain ⟨rfl, rfl, rfl⟩ := hcs
      exact ⟨zs, .inr ⟨_, rfl, hl, hm, by simpa using hz, hcell, hwz⟩⟩
  obtain ⟨a2, len2, cap2, rfl⟩ := okWide_slice Try.underlying22 (hval 2 22 v2 rfl rfl)
  have k2 := h2
  have lt2 : ∀ x ∈ p2, x.block < W.heap.size := by obtain ⟨m, hm⟩ := k2; exact DataW.trod_lt m _ _ _ hm
  obtain ⟨z2, w2⟩ : ∃ zs, IsRow .i64 W a2 len2 cap2 zs := by
    obtain ⟨fuel, hf⟩ := h2
    rcases open_ints Try.underlying22 Try.underlying3 (by kernel_rfl) hf with ⟨hcs, _⟩ | ⟨x, l, c, zs, hcs, _, hl, hm, hz, _, hcell, hwz⟩
    · simp [Value.cells] at hcs
      obtain ⟨rfl, rfl, rfl⟩ := hcs
      exact ⟨[], .inl ⟨rfl, rfl, rfl, rfl⟩⟩
    · simp [Value.cells] at hcs
      obtain ⟨rfl, rfl, rfl⟩ := hcs
      exact ⟨zs, .inr ⟨_, rfl, hl, hm, by simpa using hz, hcell, hwz⟩⟩
  obtain ⟨a3, len3, cap3, rfl⟩ := okWide_slice Try.underlying22 (hval 3 22 v3 rfl rfl)
  have k3 := h3
  have lt3 : ∀ x ∈ p3, x.block < W.heap.size := by obtain ⟨m, hm⟩ := k3; exact DataW.trod_lt m _ _ _ hm
  obtain ⟨z3, w3⟩ : ∃ zs, IsRow .i64 W a3 len3 cap3 zs := by
    obtain ⟨fuel, hf⟩ := h3
    rcases open_ints Try.underlying22 Try.underlying3 (by kernel_rfl) hf with ⟨hcs, _⟩ | ⟨x, l, c, zs, hcs, _, hl, hm, hz, _, hcell, hwz⟩
    · simp [Value.cells] at hcs
      obtain ⟨rfl, rfl, rfl⟩ := hcs
      exact ⟨[], .inl ⟨rfl, rfl, rfl, rfl⟩⟩
    · simp [Value.cells] at hcs
      obtain ⟨rfl, rfl, rfl⟩ := hcs
      exact ⟨zs, .inr ⟨_, rfl, hl, hm, by simpa using hz, hcell, hwz⟩⟩
  obtain ⟨a4, rfl, rfl, rfl, w4⟩ := open_int Try.underlying5 (hval 4 5 v4 rfl rfl) h4
  clear hA0 hval0
  refine (walk a0 len0 cap0 z0 a1 len1 cap1 z1 a2 len2 cap2 z2 a3 len3 cap3 z3 a4 W w0 w1 w2 w3 w4).mono fun e W' ⟨he, bel⟩ => ?_
  subst he
  exact ⟨_, rfl, _, _, _, [], _, [], hW', trodAll_mk1 (shut_bool Try.underlying4 _), (trodAll_cons_mk (Below.trod laidOut (by kernel_rfl) (of_decide_eq_true (by kernel_rfl)) k0 bel lt0) (trodAll_cons_mk (Below.trod laidOut (by kernel_rfl) (of_decide_eq_true (by kernel_rfl)) k1 bel lt1) (trodAll_cons_mk (Below.trod laidOut (by kernel_rfl) (of_decide_eq_true (by kernel_rfl)) k2 bel lt2) (trodAll_cons_mk (Below.trod laidOut (by kernel_rfl) (of_decide_eq_true (by kernel_rfl)) k3 bel lt3) (trodAll_cons_mk (shut_int Try.underlying5 w4) trodAll_mk0))))), rfl, bel.frame _, fun h => by cases h⟩

theorem over : Rows.watchChangedRow.holds Try.pinned (OpenSpec.ofChange Rows.watchChangedSpec) :=
  OpenClaim.holds_of_wide 3 Try.f3 rfl rfl rfl rfl rfl rfl rfl ⟨rfl, rfl, rfl, rfl, rfl⟩ rfl rfl rfl rfl rfl (by kernel_rfl) Try.func3 (by kernel_rfl)
    (of_decide_eq_true (by kernel_rfl)) (by unfold Func.isWrapper; first | (rw [if_pos (by decide +kernel)]; kernel_rfl) | (rw [if_neg (by decide +kernel)]; exact ⟨rfl, rfl⟩))
    (fun os started H enc _ => lifted os started H enc)

/-- The statement. -/
theorem proved : Rows.WatchChangedSaid := over
#print axioms proved
end Go.Proofs.Ythjnkjekidagiaa.watchChanged
