/-
  Proved: the statement 'WatchOneSaid' of the seat: for every input that law returns true, and each argument reads afterwards as it read before. No condition of ours.
  The frame follows the guide's shell; the walk and the contracts that it uses are ours.
-/
import Derived.Test.YthjnkjekidagiaaRows
import Derived.WalkKit
import Derived.ProofKit
import Derived.OpenShut
import Derived.Test.YthjnkjekidagiaaBase
import Derived.Test.YthjnkjekidagiaaOpen
import Derived.Test.YthjnkjekidagiaaWchF1
import Derived.Deep.CutBlock
import Derived.Deep.CutRange
import Derived.ShutString
import Derived.ChangeOld
import Derived.Below
namespace Go.Proofs.Ythjnkjekidagiaa.watchOne
open Go.ChangeShapes Go.WideShapes Go.ChangeAt Go.RowKit
open Go.ChangeMaps (open_string shut_string)
set_option linter.unusedVariables false

theorem own : ownKnob Try.prog.godebug = none := by kernel_rfl
theorem laidOut : laidOutB Try.prog = true := by kernel_rfl

/-- A slice of integers that came in: nil; or a row of cap cells, the numbers zs, each fitting its kind. -/
def IsRow (k : IntKind) (w : World) (a : Option Addr) (len cap : Nat) (zs : List Int) : Prop :=
  (a = none ∧ len = 0 ∧ cap = 0 ∧ zs = []) ∨
  ∃ x, a = some x ∧ len ≤ cap ∧ cap ≤ maxLen ∧ zs.length = cap ∧ (∀ i, i < zs.length → w.cell? (x.add i) = some (.int k (zs.getD i 0))) ∧ ∀ n ∈ zs, (Lit.int k n).wf = true

open Mem
open Wch

/-- What the row of sizes says of one of them. -/
theorem row_at {w : World} {a0 : Option Addr} {len0 cap0 : Nat} {z0 : List Int} (h : IsRow .u8 w a0 len0 cap0 z0) (i : Nat) (hi : i < len0) : ∃ x, a0 = some x ∧ len0 ≤ cap0 ∧ cap0 ≤ maxLen ∧ w.cell? (x.add i) = some (.int .u8 (z0.getD i 0)) ∧ 0 ≤ z0.getD i 0 ∧ z0.getD i 0 ≤ 255 ∧ (x.add i).block < w.heap.size := by
  rcases h with ⟨_, h, _⟩ | ⟨x, h1, h2, h3, h4, h5, h6⟩
  · omega
  · have hi' : i < z0.length := by omega
    have hb := bounds_u8 (h6 z0[i] (List.getElem_mem hi'))
    have e : z0.getD i 0 = z0[i] := by rw [List.getD_eq_getElem?_getD, List.getElem?_eq_getElem hi']; rfl
    refine ⟨x, h1, h2, h3, h5 i hi', by rw [e]; omega, by rw [e]; omega, ?_⟩
    have h7 := h5 i hi'
    unfold World.cell? at h7
    by_cases hb : (x.add i).block < w.heap.size
    · exact hb
    · rw [Array.getElem?_eq_none (by omega)] at h7; simp at h7

theorem int_inf : (Try.prog.info? 3).map (fun i => (i.zero, i.size, i.bytes)) = some (some (.int .i64 0), 1, 8) := by kernel_rfl

/-! The walk: the Go text returns true and writes nothing that was there. -/
set_option maxRecDepth 100000 in
set_option maxHeartbeats 4000000 in
theorem walk (a0 : Option Addr) (len0 cap0 : Nat) (z0 : List Int) (a1 : Int) (a2 : Int) (a3 : Bool) (w : World) (w0 : IsRow .u8 w a0 len0 cap0 z0) (w1 : (Lit.int .u8 a1).wf = true) (w2 : (Lit.int .u8 a2).wf = true) :
    Calls Try.prog 4 #[.slice a0 len0 cap0, .int .u8 a1, .int .u8 a2, .bool a3] w fun e w' => e = .returned (.bool true) ∧ Below w.heap.size w w' := by
  have hb1 := bounds_u8 w1
  have hb2 := bounds_u8 w2
  have HR := Lib.hid w0
  clear w0 w1 w2
  by_cases hn : len0 = 0
  · go_enter Try.func4, Try.ntmps4
    go_wp2_with (first | (go_at_call 6; refine (awake_any _).mono ?_; rintro e w4 ⟨rfl, H4⟩))
    go_ret
    exact ⟨rfl, H4.out⟩
  by_cases hn2 : 15 < len0
  · go_enter Try.func4, Try.ntmps4
    go_wp2_with (first | (go_at_call 6; refine (awake_any _).mono ?_; rintro e w4 ⟨rfl, H4⟩))
    go_ret
    exact ⟨rfl, H4.out⟩
  have e1 : ((len0 : Int) == 0) = false := by rw [beq_eq_false_iff_ne]; omega
  have hn3 : len0 ≤ 15 := by omega
  have hn4 : 1 ≤ len0 := by omega
  clear hn hn2
  obtain ⟨i0, hi, hz0, hz1, hz2⟩ := info_parts int_inf
  have Hi := Lib.hid (And.intro hi (And.intro hz0 (And.intro hz1 hz2)))
  clear hi hz0 hz1 hz2
  have HS := Lib.hid (side_start w)
  go_enter Try.func4, Try.ntmps4
  go_upto_region 7 with (first | (go_at_call 12; refine (new_any _).mono ?_; rintro e w' ⟨rfl, rfl⟩))
  generalize hp : w.heap.size = p at *
  generalize w.alloc (.cells #[.slice none 0 0] 64) = W0 at *
  go_wp2_with fail
  go_loopw [10, 12] (fun vi i wz => ∃ (k : Nat), i = .int .i64 (k : Int) ∧ k ≤ len0 ∧ Hid (∃ v L, Side w wz p v L (rowsF z0 k) vi k)) (fun _ i _ => len0 - (intOf i).toNat)
  case atStart => exact ⟨0, rfl, by omega, Lib.hid ⟨_, _, HS.out⟩⟩
  case round =>
    obtain ⟨k, rfl, hk, HM0⟩ := hrel
    clear HS
    obtain ⟨v, L, HMa⟩ := HM0.out
    have HM := Lib.hid HMa
    have hL := HMa.2.1
    have hkw := HMa.2.2.2.2
    clear HM0 HMa
    by_cases hlt : k < len0
    case pos =>
      obtain ⟨x, rfl, r1, r2, c0, s1, s2, hxs⟩ := row_at HR.out k hlt
      have c0' : wr.cell? (x.add k) = some (.int .u8 (z0.getD k 0)) := (World.cell?_of_block (hkw.block _ hxs)).trans c0
      have hsz := sz_b z0 k
      have HA := Lib.hid (add_go HM.out.1 hL (by rw [rowsF_len]; omega) hkw.size 5 (sz z0 k) (by omega))
      have HE := Lib.hid (rowsF_succ z0 k)
      have hsz2 : (1 : Int) + (z0.getD k 0) % 16 = sz z0 k := rfl
      have hvl : ∃ ga gc, u10 = .slice ga k gc := by
        rcases HM.out.2.2.1.2 with ⟨h1, h2⟩ | ⟨g, cap, c, h1, _⟩
        · exact ⟨none, 0, by rw [h1, h2]⟩
        · exact ⟨_, _, h1⟩
      obtain ⟨ga, gc, rfl⟩ := hvl
      have HK := Lib.hid hkw
      generalize sz z0 k = s at *
      generalize z0.getD k 0 = zz at *
      simp only [maxLen] at r2
      clear c0 hL hkw
      go_upto_region 11 with (first | (go_at_call 13; refine (HA.out).mono ?_; rintro e w1 ⟨rfl, H1⟩))
      obtain ⟨v', L', hside⟩ := side_add HM.out H1.out
      have HS1 := Lib.hid hside
      have hrow := hside.2.2.1
      have hsz1 := hside.2.2.2.2.size
      clear H1 HA hside
      go_wp2_with (at_builtin; refine wpList_append_lies _ rfl (.tmp 43) (.tmp 45) 22 rfl w.heap.size 3 i0 _ 1 8 Try.underlying22 Hi.out.1 Hi.out.2.1 Hi.out.2.2.1 Hi.out.2.2.2 rfl (by omega) (.slice ga k gc) k (ints (iota k)) rfl (hrow.alloc _) ⟨w1.heap.size, 0, none⟩ 1 1 [.int .i64 (k : Int)] rfl rfl (World.news_of_block (cs := #[.int .i64 (k : Int)]) (heap_alloc_new w1 _)) (by simp [Value.oneCell']) (by omega) (by simp only [maxLen]; omega) (by omega) (by simp; omega) (w1.heap.size + 1) (by simp) ?_; intro g cap w2 hown hgrow hat hlt2)
      have HS2 := Lib.hid (side_app HS1.out hown hgrow hat)
      clear hown hgrow hat hrow
      exact ⟨⟨k + 1, by simp, by omega, Lib.hid ⟨v', L', by rw [HE.out]; exact HS2.out⟩⟩, by simp [intOf]; omega⟩
    obtain rfl : k = len0 := by omega
    obtain ⟨q, hq⟩ : ∃ q : Nat, a1 % (k : Int) = q := ⟨(a1 % (k : Int)).toNat, by have := Int.emod_nonneg a1 (b := (k : Int)) (by omega); omega⟩
    have hqk : q < k := by have := Int.emod_lt_of_pos a1 (b := (k : Int)) (by omega); omega
    have hq' : a1.tmod (k : Int) = q := by rw [Int.tmod_eq_emod_of_nonneg (by omega)]; exact hq
    obtain ⟨x, rfl, r1, r2, c0, s1, s2, hxs⟩ := row_at HR.out q hqk
    have hsz := sz_b z0 q
    obtain ⟨j, hj⟩ : ∃ j : Nat, a2 % (sz z0 q) = j := ⟨(a2 % (sz z0 q)).toNat, by have := Int.emod_nonneg a2 (b := sz z0 q) (by omega); omega⟩
    have hjk : j < sz z0 q := by have := Int.emod_lt_of_pos a2 (b := sz z0 q) (by omega); omega
    have hj' : a2.tmod (sz z0 q) = j := by rw [Int.tmod_eq_emod_of_nonneg (by omega)]; exact hj
    obtain ⟨sN, hsN⟩ : ∃ sN : Nat, sz z0 q = sN := ⟨(sz z0 q).toNat, by omega⟩
    have hsz2 : (1 : Int) + (z0.getD q 0) % 16 = sN := hsN
    have HG := Lib.hid (rowsF_get z0 (n := k) hqk hjk)
    have X1 := Lib.hid (chg_none (D := difR (rowsF z0 k) (rowsF z0 k)) (may := []) (l := iota k) (fun i _ => .inr (dif_self _ _)))
    have X2 := Lib.hid (chg_one (D := difR (rowsF z0 k) (setT (rowsF z0 k) q j 5)) (k := (q : Int)) (l := iota k) (List.mem_map.2 ⟨q, by simpa using hqk, rfl⟩) (dif_set hqk hjk))
    have X3 := Lib.hid (chg_none (D := difR (rowsF z0 k) (setT (rowsF z0 k) q j 5)) (may := [(q : Int)]) (l := iota k) (fun i hi => by
      by_cases e : i = (q : Int)
      · left; rw [e]; simp
      · right; rw [dif_set hqk hjk i hi]; simpa using e))
    have X4 := Lib.hid (chg_none (D := difR (setT (rowsF z0 k) q j 5) (setT (rowsF z0 k) q j 5)) (may := []) (l := iota k) (fun i _ => .inr (dif_self _ _)))
    have hkl : (rowsF z0 k).length ≤ 100000 := by rw [rowsF_len]; omega
    have hSm := rowsF_small z0 k
    have hSm2 := hSm.set (q : Int) (j : Int) 5
    have hkl2 : (setT (rowsF z0 k) q j 5).length ≤ 100000 := by rw [rowsF_set z0 5 hqk hjk (by omega), List.length_set]; exact hkl
    rw [hsN] at hsz hj hj' hjk
    have c0' : wr.cell? (x.add q) = some (.int .u8 (z0.getD q 0)) := (World.cell?_of_block (hkw.block _ hxs)).trans c0
    have hids := HM.out.ids (by omega)
    have HC := Lib.hid (copy_rows HM.out.1 hL hkl hSm)
    have HID := Lib.hid hids
    have HL := Lib.hid hL
    have HSm := Lib.hid (And.intro hSm (And.intro hSm2 (And.intro hkl hkl2)))
    obtain ⟨ga, gc, hvi⟩ := hids.form
    rw [iota_len] at hvi
    subst hvi
    generalize rowsF z0 k = T at *
    generalize hU : setT T (q : Int) (j : Int) 5 = U at *
    have HU := Lib.hid hU
    generalize z0.getD q 0 = zz at *
    simp only [maxLen] at r2
    have hxs' : (x.add q).block < wr.heap.size := Nat.lt_of_lt_of_le hxs hkw.size
    clear hL hU hSm hSm2 hkl hkl2 hids c0 hkw hsz
    go_upto_region 14 with (first | (go_at_call 14; refine (HC.out).mono ?_; rintro e w2 ⟨qc, rfl, H2⟩))
    obtain ⟨kc, vc, K, mc, ec⟩ := H2.out
    have c1' : w2.cell? (x.add q) = some (.int .u8 zz) := (World.cell?_of_block (kc.block _ hxs')).trans c0'
    have HW2 := Lib.hid (And.intro mc ec)
    have Kc := Lib.hid kc
    have HD1 := Lib.hid (changed_any (HM.out.1.kept kc) HL.out HSm.out.1 mc ec HSm.out.1 (HID.out.kept kc) (ints_nil w2))
    rw [X1.out] at HD1
    have HS2 := Lib.hid (fun W (hk : Kept w2 W) => set_rows (mc.kept hk) ec (id := (q : Int)) (at_ := (j : Int)) (n := 5) (b := true) (by rw [HG.out]))
    rw [HU.out] at HS2
    clear HC H2 kc mc ec c0'
    go_upto_region 16 with (first | (go_at_call 10; refine (HD1.out).mono ?_; rintro e w3 ⟨rfl, k3⟩; have K3 := Lib.hid k3; have c2' : w3.cell? (x.add q) = some (.int .u8 zz) := (World.cell?_of_block (k3.block _ (Nat.lt_of_lt_of_le hxs' Kc.out.size))).trans c1'; clear k3) | (go_at_call 15; refine (HS2.out _ K3.out).mono ?_; rintro e w4 ⟨rfl, H4⟩))
    obtain ⟨L5, m5, e5, k5⟩ := H4.out
    have k45 := (HW2.out.1.kept K3.out).kept_set (Nat.le_refl _) (Kc.out.trans K3.out) k5
    have mm := HM.out.1.kept k45
    have id4 := HID.out.kept k45
    have K4 := Lib.hid ((HM.out.2.2.2.2).trans k45)
    have HC2 := Lib.hid (fun W (hk : Kept w4 W) => copy_rows (m5.kept hk) e5 HSm.out.2.2.2 HSm.out.2.1)
    have HD4 := Lib.hid (fun W (hk : Kept w4 W) (b : Nat) (q2 : Nat) (vq : Value) (Lq : List Bk) (mq : MemAt b 64 W q2 vq Lq) (eq : Lq.map tv = U) => changed_any (m5.kept hk) e5 HSm.out.2.1 mq eq HSm.out.2.1 (id4.kept hk) (ints_nil W))
    rw [X4.out] at HD4
    cases a3
    case' false =>
      have HD3 := Lib.hid (changed_any mm HL.out HSm.out.1 m5 e5 HSm.out.2.1 id4 (ints_nil w4))
      rw [X2.out] at HD3
      have K5 := Lib.hid (Kept.refl w4)
    case' true =>
      have k6 : Kept w4 (w4.alloc (.cells #[.int .i64 (q : Int)] 3)) := (Kept.refl w4).alloc _
      have hn4 := heap_alloc_new w4 (.cells #[.int .i64 (q : Int)] 3)
      have hq1 : IntsAt (w4.alloc (.cells #[.int .i64 (q : Int)] 3)) (.slice (some ⟨w4.heap.size, 0, none⟩) 1 1) [(q : Int)] := .inr ⟨_, 1, rfl, Nat.le_refl _, by simp [maxLen], fun j' hj' => by
        obtain rfl : j' = 0 := by simpa using hj'
        exact ⟨by simp [Addr.add], box_cell hn4 0 _ rfl, show (Lit.int .i64 (q : Int)).wf = true from WalkArith.wf_i64 (by omega)⟩⟩
      have HD3 := Lib.hid (changed_any (mm.kept k6) HL.out HSm.out.1 (m5.kept k6) e5 HSm.out.2.1 (id4.kept k6) hq1)
      rw [X3.out] at HD3
      have K5 := Lib.hid k6
      clear k6 hn4 hq1
    all_goals
      clear H4 m5 e5 k5 k45 mm id4 HSm HW2 Kc K3 HD1 HS2 X1 X2 X3 X4 HU HG HID HL HM c1'
      have M1 : Hid True := Lib.hid trivial
      go_wp2_with (first | (go_at_call 10; clear M1; refine (HD3.out).mono ?_; rintro e w5 ⟨rfl, k5⟩; have K6 := Lib.hid (K5.out.trans k5); clear k5) | (go_at_call 14; refine (HC2.out _ K6.out).mono ?_; rintro e w6 ⟨q6, rfl, H6⟩) | (go_at_call 10; obtain ⟨k6, v6, L6, m6, e6⟩ := H6.out; have K7 := Lib.hid (K6.out.trans k6); refine (HD4.out _ K7.out _ _ _ _ m6 e6).mono ?_; rintro e w7 ⟨rfl, k7⟩; have K8 := Lib.hid (K7.out.trans k7); clear k7 k6 m6 e6) | (go_at_call 6; refine (awake_any _).mono ?_; rintro e w9 ⟨rfl, H9⟩))
      go_ret
      exact ⟨rfl, (K4.out.trans K8.out).trans H9.out⟩

set_option maxRecDepth 100000 in
theorem lifted (os : Os) (started : os.Started) (H : Type) (enc : TypeId × Value → H) :
    ReturnsInHanded {} Try.checked os 4 .any (Rows.watchOneSpec.pre6 enc Try.prog Try.f4 Rows.watchOneRow.domain false) (Rows.watchOneSpec.post enc Try.prog Try.f4 false true false false) := by
  refine returnsInHanded_of_change (C := Try.checked) own started (by kernel_rfl) Try.func4
    (ChangeSpec.witness6 (enc := enc) (C := Try.checked) false ⟨#[], #[.slice none 0 0, .int .u8 0, .int .u8 0, .bool false], []⟩ 8 (by kernel_rfl) (by kernel_rfl) (by kernel_rfl) (by kernel_rfl)) ?_
  intro W base args ds gs before hval0 hW hcnd _
  have hval : ∀ (j : Nat) t v, Try.f4.params[j]? = some t → args[j]? = some v → Value.okWide Try.prog W .any base t v := hval0
  have hW' := hW
  obtain ⟨p, q, hA0, hV, rfl, hfz, hnd⟩ := hW
  have hA : DataW.TrodAll enc Try.prog W 0 (fun _ => true) true Try.f4.params.toList args.toList ds p := hA0
  rw [Try.params4] at hA hval
  obtain ⟨v0, vs0, d0, ds0, p0, q0, hargs, rfl, rfl, h0, r0⟩ := trodAll_cons hA
  obtain ⟨v1, vs1, d1, ds1, p1, q1, rfl, rfl, rfl, h1, r1⟩ := trodAll_cons r0
  obtain ⟨v2, vs2, d2, ds2, p2, q2, rfl, rfl, rfl, h2, r2⟩ := trodAll_cons r1
  obtain ⟨v3, vs3, d3, ds3, p3, q3, rfl, rfl, rfl, h3, r3⟩ := trodAll_cons r2
  obtain ⟨rfl, rfl, rfl⟩ := trodAll_nil r3
  obtain rfl : args = #[v0, v1, v2, v3] := by cases args; simp_all
  obtain ⟨rfl, rfl⟩ := trodVars_none hV
  obtain ⟨a0, len0, cap0, rfl⟩ := okWide_slice Try.underlying32 (hval 0 32 v0 rfl rfl)
  have k0 := h0
  have lt0 : ∀ x ∈ p0, x.block < W.heap.size := by obtain ⟨m, hm⟩ := k0; exact DataW.trod_lt m _ _ _ hm
  obtain ⟨z0, w0⟩ : ∃ zs, IsRow .u8 W a0 len0 cap0 zs := by
    obtain ⟨fuel, hf⟩ := h0
    rcases open_ints Try.underlying32 Try.underlying5 (by kernel_rfl) hf with ⟨hcs, _⟩ | ⟨x, l, c, zs, hcs, _, hl, hm, hz, _, hcell, hwz⟩
    · simp [Value.cells] at hcs
      obtain ⟨rfl, rfl, rfl⟩ := hcs
      exact ⟨[], .inl ⟨rfl, rfl, rfl, rfl⟩⟩
    · simp [Value.cells] at hcs
      obtain ⟨rfl, rfl, rfl⟩ := hcs
      exact ⟨zs, .inr ⟨_, rfl, hl, hm, by simpa using hz, hcell, hwz⟩⟩
  obtain ⟨a1, rfl, rfl, rfl, w1⟩ := open_int Try.underlying5 (hval 1 5 v1 rfl rfl) h1
  obtain ⟨a2, rfl, rfl, rfl, w2⟩ := open_int Try.underlying5 (hval 2 5 v2 rfl rfl) h2
  obtain ⟨a3, rfl, rfl, rfl⟩ := open_bool Try.underlying4 (hval 3 4 v3 rfl rfl) h3
  clear hA0 hval0
  refine (walk a0 len0 cap0 z0 a1 a2 a3 W w0 w1 w2).mono fun e W' ⟨he, bel⟩ => ?_
  subst he
  exact ⟨_, rfl, _, _, _, [], _, [], hW', trodAll_mk1 (shut_bool Try.underlying4 _), (trodAll_cons_mk (Below.trod laidOut (by kernel_rfl) (of_decide_eq_true (by kernel_rfl)) k0 bel lt0) (trodAll_cons_mk (shut_int Try.underlying5 w1) (trodAll_cons_mk (shut_int Try.underlying5 w2) (trodAll_cons_mk (shut_bool Try.underlying4 _) trodAll_mk0)))), rfl, bel.frame _, fun h => by cases h⟩

theorem over : Rows.watchOneRow.holds Try.pinned (OpenSpec.ofChange Rows.watchOneSpec) :=
  OpenClaim.holds_of_wide 4 Try.f4 rfl rfl rfl rfl rfl rfl rfl ⟨rfl, rfl, rfl, rfl, rfl⟩ rfl rfl rfl rfl rfl (by kernel_rfl) Try.func4 (by kernel_rfl)
    (of_decide_eq_true (by kernel_rfl)) (by unfold Func.isWrapper; first | (rw [if_pos (by decide +kernel)]; kernel_rfl) | (rw [if_neg (by decide +kernel)]; exact ⟨rfl, rfl⟩))
    (fun os started H enc _ => lifted os started H enc)

/-- The statement. -/
theorem proved : Rows.WatchOneSaid := over
#print axioms proved
end Go.Proofs.Ythjnkjekidagiaa.watchOne
