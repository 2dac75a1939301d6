/-
  Proved: the statement 'MemoryApartSaid' of the seat: for every input that law returns true, and each argument reads afterwards as it read before. No condition of ours.
  The frame is the guide's shell; the walk and the contracts that it uses are ours.
-/
import Derived.Test.YtkdfkibpoccmlaaRows
import Derived.WalkKit
import Derived.ProofKit
import Derived.OpenShut
import Derived.Test.YtkdfkibpoccmlaaBase
import Derived.Test.YtkdfkibpoccmlaaMemO
import Derived.ShutString
import Derived.ChangeOld
import Derived.Below
namespace Go.Proofs.Ytkdfkibpoccmlaa.memoryApart
open Go.ChangeShapes Go.WideShapes Go.ChangeAt Go.RowKit
open Go.ChangeMaps (open_string shut_string)
set_option linter.unusedVariables false

theorem own : ownKnob Try.prog.godebug = none := by kernel_rfl
theorem laidOut : laidOutB Try.prog = true := by kernel_rfl

/-- WHAT THE WALK IS TOLD OF A SLICE OF INTEGERS THAT CAME IN: it is nil; or it leads to a row of 'cap' cells, the numbers 'zs' (the first 'len' are its elements, the rest its spare room), each fitting its kind. -/
def IsRow (k : IntKind) (w : World) (a : Option Addr) (len cap : Nat) (zs : List Int) : Prop :=
  (a = none ∧ len = 0 ∧ cap = 0 ∧ zs = []) ∨
  ∃ x, a = some x ∧ len ≤ cap ∧ cap ≤ maxLen ∧ zs.length = cap ∧ (∀ i, i < zs.length → w.cell? (x.add i) = some (.int k (zs.getD i 0))) ∧ ∀ n ∈ zs, (Lit.int k n).wf = true

open Mem

/-- What the row of sizes says of one of them. -/
theorem row_at {w : World} {a0 : Option Addr} {len0 cap0 : Nat} {z0 : List Int} (h : IsRow .u8 w a0 len0 cap0 z0) (i : Nat) (hi : i < len0) : ∃ x, a0 = some x ∧ len0 ≤ cap0 ∧ cap0 ≤ maxLen ∧ w.cell? (x.add i) = some (.int .u8 (z0.getD i 0)) ∧ 0 ≤ z0.getD i 0 ∧ z0.getD i 0 ≤ 255 ∧ (x.add i).block < w.heap.size := by
  rcases h with ⟨_, h, _⟩ | ⟨x, h1, h2, h3, h4, h5, h6⟩
  · omega
  · have hi' : i < z0.length := by omega
    have hb := bounds_u8 (h6 z0[i] (List.getElem_mem hi'))
    have e : z0.getD i 0 = z0[i] := by rw [List.getD_eq_getElem?_getD, List.getElem?_eq_getElem hi']; rfl
    refine ⟨x, h1, h2, h3, h5 i hi', by rw [e]; omega, by rw [e]; omega, ?_⟩
    have h7 := h5 i hi'
    unfold World.cell? at h7
    by_cases hb : (x.add i).block < w.heap.size
    · exact hb
    · rw [Array.getElem?_eq_none (by omega)] at h7; simp at h7

/-- What the rows are behind the Set. -/
theorem facts {z : List Int} {k q j sN : Nat} {v : Int} (hqk : q < k) (hs : sz z q = sN) (hj : j < sN) (hv : -2147483648 ≤ v ∧ v ≤ 2147483647) :
    ∃ R, setT (rowsF z k) q j v = R ∧ getT R q sN = (0, false) ∧ getT R k 0 = (0, false) ∧ (∃ l, blkR R q = (true, 5, l) ∧ l.length = sN) ∧ Small R ∧ ∀ i l : Nat, i < k → (l : Int) < sz z i → getT R i l = (if i = q ∧ l = j then v else 0, true) := by
  refine ⟨_, rfl, ?_, ?_, ?_, (rowsF_small z k).set _ _ _, ?_⟩
  all_goals rw [rowsF_set z v hqk (by omega) hv]
  · exact get_no (x := (5, (List.replicate (sz z q).toNat 0).set j v)) (by simp [rowsF_len, hqk]) (by simp; omega)
  · exact get_none (i := k) (j := 0) (by simp [rowsF_len])
  · refine ⟨(List.replicate (sz z q).toNat 0).set j v, ?_, by simp; omega⟩
    unfold blkR
    simp [rowsF_len, hqk]
  · intro i l hi hl
    exact rowsF_set_get z v hi hl

theorem own_slice {w : World} {base : Nat} {v : Value} {l : List Int} {n : Nat} (h : w.ownsRow base 3 1 v l.length (ints l)) (hn : l.length = n) (hp : 0 < n) :
    ∃ g cap cs, v = .slice (some ⟨g, 0, none⟩) n cap ∧ base ≤ g ∧ n ≤ cap ∧ cap ≤ maxLen ∧ w.heap[g]? = some (.cells cs 3 (0, 0)) ∧ cs.size = cap := by
  rcases h.2 with ⟨_, h2⟩ | ⟨g, cap, cs, h1, h2, h3, h4, h5, h6, h7⟩
  · omega
  · exact ⟨g, cap, cs, by rw [h1, hn], h2, by omega, h5, h3, by omega⟩

/-! ### STEP 1: THE WALK: the Go text returns true, AND WRITES NOTHING THAT WAS THERE: 'Below w.heap.size w w'' (Derived/Below.lean: '.refl', '.alloc', '.drew', '.setCell' at a new block, '.trans'). Open each 'IsRow' by 'rcases' AHEAD of 'go_enter'; part every test ahead of the walk. -/
set_option maxRecDepth 100000 in
set_option maxHeartbeats 4000000 in
theorem walk (a0 : Option Addr) (len0 cap0 : Nat) (z0 : List Int) (a1 : Int) (a2 : Int) (a3 : Int) (w : World) (w0 : IsRow .u8 w a0 len0 cap0 z0) (w1 : (Lit.int .u8 a1).wf = true) (w2 : (Lit.int .u8 a2).wf = true) (w3 : (Lit.int .i16 a3).wf = true) :
    Calls Try.prog 4 #[.slice a0 len0 cap0, .int .u8 a1, .int .u8 a2, .int .i16 a3] w fun e w' => e = .returned (.bool true) ∧ Below w.heap.size w w' := by
  have hb1 := bounds_u8 w1
  have hb2 := bounds_u8 w2
  have hb3 := bounds_i16 w3
  have HR := Lib.hid w0
  clear w0
  by_cases hn : len0 = 0
  · go_enter Try.func4, Try.ntmps4
    go_wp2_with (first | (go_at_call 7; refine (awake_any _).mono ?_; rintro e w4 ⟨rfl, H4⟩))
    go_ret
    exact ⟨rfl, H4.out⟩
  by_cases hn2 : 20 < len0
  · go_enter Try.func4, Try.ntmps4
    go_wp2_with (first | (go_at_call 7; refine (awake_any _).mono ?_; rintro e w4 ⟨rfl, H4⟩))
    go_ret
    exact ⟨rfl, H4.out⟩
  have e1 : ((len0 : Int) == 0) = false := by rw [beq_eq_false_iff_ne]; omega
  have hn3 : len0 ≤ 20 := by omega
  have hn4 : 1 ≤ len0 := by omega
  clear hn hn2
  have HS : Hid (MemAt w.heap.size 51 (w.alloc (.cells #[.slice none 0 0] 51)) w.heap.size (.slice none 0 0) [] ∧ Kept w (w.alloc (.cells #[.slice none 0 0] 51))) := Lib.hid ⟨new_at w _ (Nat.le_refl _), new_kept w⟩
  go_enter Try.func4, Try.ntmps4
  go_wp2_with (first | (go_at_call 8; refine (new_any _).mono ?_; rintro e w' ⟨rfl, rfl⟩))
  go_loopw [10] (fun i wz => ∃ (k : Nat) (wx : World) (v : Value) (L : List Bk), i = .int .i64 (k : Int) ∧ wx = wz ∧ k ≤ len0 ∧ L.map tv = rowsF z0 k ∧ Hid (MemAt w.heap.size 51 wx w.heap.size v L ∧ Kept w wx)) (fun i _ => len0 - (intOf i).toNat)
  case atStart => exact ⟨0, _, _, [], rfl, rfl, by omega, rfl, HS⟩
  case round =>
    obtain ⟨k, wx, v, L, rfl, rfl, hk, hL, HM⟩ := hrel
    clear HS
    have hlen : L.length = k := by have := congrArg List.length hL; simpa [rowsF_len] using this
    by_cases hlt : k < len0
    case pos =>
      obtain ⟨x, rfl, r1, r2, c0, s1, s2, hxs⟩ := row_at HR.out k hlt
      have hkw := HM.out.2
      have c0' : wx.cell? (x.add k) = some (.int .u8 (z0.getD k 0)) := (World.cell?_of_block (hkw.block _ hxs)).trans c0
      have hsz := sz_b z0 k
      have HA := add_rows HM.out.1 hL (by rw [rowsF_len]; omega) hkw.size 5 (sz z0 k) (by omega)
      rw [rowsF_len] at HA
      have HE := Lib.hid (rowsF_succ z0 k)
      have hsz2 : (1 : Int) + (z0.getD k 0) % 16 = sz z0 k := rfl
      generalize sz z0 k = s at *
      generalize z0.getD k 0 = zz at *
      simp only [maxLen] at r2
      clear c0
      go_wp2_with (first | (go_at_call 9; refine HA.mono ?_; rintro e w1 ⟨rfl, H1⟩))
      obtain ⟨v', L', m1, m2, m3⟩ := H1.out
      exact ⟨⟨k + 1, _, v', L', by simp, rfl, by omega, by rw [m2, HE.out], Lib.hid ⟨m1, HM.out.1.kept_add (Nat.le_refl _) HM.out.2 m3⟩⟩, by simp [intOf]; omega⟩
    obtain rfl : k = len0 := by omega
    obtain ⟨q, hq⟩ : ∃ q : Nat, a1 % (k : Int) = q := ⟨(a1 % (k : Int)).toNat, by have := Int.emod_nonneg a1 (b := (k : Int)) (by omega); omega⟩
    have hqk : q < k := by have := Int.emod_lt_of_pos a1 (b := (k : Int)) (by omega); omega
    have hq' : a1.tmod (k : Int) = q := by rw [Int.tmod_eq_emod_of_nonneg (by omega)]; exact hq
    obtain ⟨x, rfl, r1, r2, c0, s1, s2, hxs⟩ := row_at HR.out q hqk
    have hkw := HM.out.2
    have c0' : wx.cell? (x.add q) = some (.int .u8 (z0.getD q 0)) := (World.cell?_of_block (hkw.block _ hxs)).trans c0
    have hsz := sz_b z0 q
    obtain ⟨j, hj⟩ : ∃ j : Nat, a2 % (sz z0 q) = j := ⟨(a2 % (sz z0 q)).toNat, by have := Int.emod_nonneg a2 (b := sz z0 q) (by omega); omega⟩
    have hjk : j < sz z0 q := by have := Int.emod_lt_of_pos a2 (b := sz z0 q) (by omega); omega
    have hj' : a2.tmod (sz z0 q) = j := by rw [Int.tmod_eq_emod_of_nonneg (by omega)]; exact hj
    obtain ⟨sN, hsN⟩ : ∃ sN : Nat, sz z0 q = sN := ⟨(sz z0 q).toNat, by omega⟩
    obtain ⟨R, G1, G2, G3, ⟨lq, G4, hlq⟩, G5, G6⟩ := facts (j := j) (v := a3) hqk hsN (by omega) (by omega)
    have hsz2 : (1 : Int) + (z0.getD q 0) % 16 = sN := hsN
    have G0 := Lib.hid (rowsF_get z0 hqk hjk)
    have GZ := Lib.hid (fun (i l : Nat) h => rowsF_get z0 (n := k) (i := i) (j := l) h)
    have HG := Lib.hid (And.intro G1 (And.intro G2 (And.intro G3 (And.intro G4 (And.intro hlq (And.intro G5 G6))))))
    have HSm := Lib.hid (rowsF_small z0 k)
    have hkl : (rowsF z0 k).length ≤ 100000 := by rw [rowsF_len]; omega
    have HL := Lib.hid hL
    rw [hsN] at hsz hj hj' hjk
    have hjk' : j < sN := by omega
    clear G1 G2 G3 G4 G5 G6 hL c0 hkw
    generalize hzz : z0.getD q 0 = zz at *
    simp only [maxLen] at r2
    have hbw := HM.out.2.size
    have M1 : Hid True := Lib.hid trivial
    go_wp2_with (first | (go_at_call 17; refine (copy_rows HM.out.1 HL.out hkl HSm.out).mono ?_; rintro e w2 ⟨qc, rfl, H2⟩) | (go_at_call 11; clear M3; refine (set_none H3c.out.1 H3c.out.2.1 _ HG.out.2.2.1).mono ?_; rintro e w' ⟨rfl, rfl⟩) | (go_at_call 11; clear M2; refine (set_none H3c.out.1 H3c.out.2.1 _ HG.out.2.1).mono ?_; rintro e w' ⟨rfl, rfl⟩; have M3 : Hid True := Lib.hid trivial) | (go_at_call 11; clear M1; refine (set_rows (HM.out.1.kept H2.out.1) HL.out (id := (q : Int)) (at_ := (j : Int)) (n := a3) (b := true) (by rw [G0.out])).mono ?_; rintro e w3 ⟨rfl, H3⟩; have H3b : Hid (∃ L', MemAt w.heap.size 51 w3 w.heap.size v L' ∧ L'.map tv = R ∧ Kept w w3) := Lib.hid (by obtain ⟨L', m1, m2, m3⟩ := H3.out; exact ⟨L', m1, m2.trans HG.out.1, (HM.out.1.kept H2.out.1).kept_set (Nat.le_refl _) (HM.out.2.trans H2.out.1) m3⟩); obtain ⟨L3, H3c⟩ : ∃ L', Hid (MemAt w.heap.size 51 w3 w.heap.size v L' ∧ L'.map tv = R ∧ Kept w w3) := (by obtain ⟨L', hh⟩ := H3b.out; exact ⟨L', Lib.hid hh⟩); have M2 : Hid True := Lib.hid trivial) | (go_at_call 19; refine (block_rows H3c.out.1 H3c.out.2.1 HG.out.2.2.2.2.2.1 HG.out.2.2.2.1).mono ?_; rintro e w4 ⟨vs, rfl, H4⟩; obtain ⟨g, cap, cs, rfl, hg1, hg2, hg3, hg4, hg5⟩ := own_slice H4.out.2 HG.out.2.2.2.2.1 (by omega); have cg := box_cell hg4 j (cs[j]'(by omega)) (by simp); have fg := box_froz hg4 j; have lg := box_lt hg4; simp only [maxLen] at hg3; clear hg4))
    have hkk : 2 ≤ 3 := by omega
    clear HSm H3b hzz
    go_region_with fail
    all_goals
      go_wp2
      go_loopw [16] (fun i wz => ∃ (n : Nat) (W : World), i = .int .i64 (n : Int) ∧ W = wz ∧ n ≤ k ∧ Hid (∃ L3 vc K, MemAt w.heap.size 51 W w.heap.size v L3 ∧ L3.map tv = R ∧ MemAt wx.heap.size 51 W qc vc K ∧ K.map tv = rowsF z0 k ∧ Kept w W)) (fun i _ => k - (intOf i).toNat)
      case atStart =>
        obtain ⟨vc, K, d1, d2⟩ := H2.out.2
        obtain ⟨L', m1, m2, m3⟩ := H3.out
        have d3 := d1.apart m3 (fun i hi => by
          obtain ⟨y, hy, rfl⟩ := hi
          obtain ⟨cur, g1, -⟩ := (HM.out.1.inn y hy).cells
          exact box_lt g1)
        have hkW : Kept w3 ((w4.setCell ⟨g, j, none⟩ (.int .i64 7777777)).alloc (.cells #[.int .i64 5, .slice (some ⟨g, 0, none⟩) sN cap] 40)).drew := (((H4.out.1).setCell hg1 _).alloc _).drew
        exact ⟨0, _, rfl, rfl, by omega, Lib.hid ⟨L3, vc, K, H3c.out.1.kept hkW, H3c.out.2.1, d3.kept hkW, d2, H3c.out.2.2.trans hkW⟩⟩
      case round =>
        clear cg fg lg
        obtain ⟨n, W, rfl, rfl, hnk, HW⟩ := hrel
        by_cases hlt2 : n < k
        case neg =>
          go_wp2_with (first | (go_at_call 7; refine (awake_any _).mono ?_; rintro e w5 ⟨rfl, H5⟩))
          go_ret
          obtain ⟨L3, vc, K, d1, d2, d3, d4, d5⟩ := HW.out
          exact ⟨rfl, d5.trans H5.out⟩
        obtain ⟨x', hx', r1', r2', c1, t1, t2, hxs'⟩ := row_at HR.out n hlt2
        injection hx' with hx'
        subst hx'
        have c1' : W.cell? (x.add n) = some (.int .u8 (z0.getD n 0)) := (World.cell?_of_block (by obtain ⟨L3, vc, K, d1, d2, d3, d4, d5⟩ := HW.out; exact d5.block _ hxs')).trans c1
        have hsz' := sz_b z0 n
        obtain ⟨tN, htN⟩ : ∃ tN : Nat, sz z0 n = tN := ⟨(sz z0 n).toNat, by omega⟩
        have hsz3 : (1 : Int) + (z0.getD n 0) % 16 = tN := htN
        have GZn := Lib.hid (fun (l : Nat) h => GZ.out n l hlt2 h)
        have GGn := Lib.hid (fun (l : Nat) h => HG.out.2.2.2.2.2.2 n l hlt2 h)
        rw [htN] at hsz' GZn GGn
        generalize z0.getD n 0 = zn at *
        simp only [maxLen] at r2'
        clear c1 htN
        go_wp2
        go_loopw [17] (fun i wz => ∃ m : Nat, i = .int .i64 (m : Int) ∧ W = wz ∧ m ≤ tN) (fun i _ => tN - (intOf i).toNat)
        case atStart => exact ⟨0, rfl, rfl, by omega⟩
        case round =>
          obtain ⟨m, rfl, rfl, hmt⟩ := hrel
          by_cases hlt3 : m < tN
          case neg =>
            go_wp2
            exact ⟨⟨n + 1, _, by simp, rfl, by omega, HW⟩, by simp [intOf]; omega⟩
          have M1 : Hid True := Lib.hid trivial
          have g1 := GGn.out m (by omega)
          have g2 := GZn.out m (by omega)
          obtain ⟨L5, vc, K, Hd⟩ : ∃ L3 vc K, Hid (MemAt w.heap.size 51 W w.heap.size v L3 ∧ L3.map tv = R ∧ MemAt wx.heap.size 51 W qc vc K ∧ K.map tv = rowsF z0 k ∧ Kept w W) := (by obtain ⟨L3, vc, K, hh⟩ := HW.out; exact ⟨L3, vc, K, Lib.hid hh⟩)
          by_cases hnq : n = q
          case neg =>
            rw [if_neg (fun h => hnq h.1)] at g1
            have hb3 : ((n : Int) == (q : Int)) = false := by rw [beq_eq_false_iff_ne]; omega
            go_wp2_with (first | (go_at_call 13; clear M1; refine (get_rows Hd.out.1 Hd.out.2.1 g1).mono ?_; rintro e w' ⟨rfl, rfl⟩; have M2 : Hid True := Lib.hid trivial) | (go_at_call 13; clear M2; refine (get_rows Hd.out.2.2.1 Hd.out.2.2.2.1 g2).mono ?_; rintro e w' ⟨rfl, rfl⟩))
            exact ⟨⟨m + 1, by simp, by trivial, by omega⟩, by simp [intOf]; omega⟩
          subst hnq
          by_cases hmj : m = j
          case neg =>
            rw [if_neg (fun h => hmj h.2)] at g1
            have hb4 : ((m : Int) == (j : Int)) = false := by rw [beq_eq_false_iff_ne]; omega
            go_wp2_with (first | (go_at_call 13; clear M1; refine (get_rows Hd.out.1 Hd.out.2.1 g1).mono ?_; rintro e w' ⟨rfl, rfl⟩; have M2 : Hid True := Lib.hid trivial) | (go_at_call 13; clear M2; refine (get_rows Hd.out.2.2.1 Hd.out.2.2.2.1 g2).mono ?_; rintro e w' ⟨rfl, rfl⟩))
            exact ⟨⟨m + 1, by simp, by trivial, by omega⟩, by simp [intOf]; omega⟩
          case pos =>
            subst hmj
            rw [if_pos ⟨rfl, rfl⟩] at g1
            have hb5 : (a3 != a3) = false := by simp
            go_wp2_with (first | (go_at_call 13; clear M1; refine (get_rows Hd.out.1 Hd.out.2.1 g1).mono ?_; rintro e w' ⟨rfl, rfl⟩; have M2 : Hid True := Lib.hid trivial) | (go_at_call 13; clear M2; refine (get_rows Hd.out.2.2.1 Hd.out.2.2.2.1 g2).mono ?_; rintro e w' ⟨rfl, rfl⟩))
            exact ⟨⟨m + 1, by simp, by trivial, by omega⟩, by simp [intOf]; omega⟩

/-! ### THE ROW's STEP: WRITTEN OUT: LEAVE IT -/
set_option maxRecDepth 100000 in
theorem lifted (os : Os) (started : os.Started) (H : Type) (enc : TypeId × Value → H) :
    ReturnsInHanded {} Try.checked os 4 .any (Rows.memoryApartSpec.pre6 enc Try.prog Try.f4 Rows.memoryApartRow.domain false) (Rows.memoryApartSpec.post enc Try.prog Try.f4 false true false false) := by
  refine returnsInHanded_of_change (C := Try.checked) own started (by kernel_rfl) Try.func4
    (ChangeSpec.witness6 (enc := enc) (C := Try.checked) false ⟨#[], #[.slice none 0 0, .int .u8 0, .int .u8 0, .int .i16 0], []⟩ 8 (by kernel_rfl) (by kernel_rfl) (by kernel_rfl) (by kernel_rfl)) ?_
  intro W base args ds gs before hval0 hW hcnd _
  have hval : ∀ (j : Nat) t v, Try.f4.params[j]? = some t → args[j]? = some v → Value.okWide Try.prog W .any base t v := hval0
  have hW' := hW
  obtain ⟨p, q, hA0, hV, rfl, hfz, hnd⟩ := hW
  have hA : DataW.TrodAll enc Try.prog W 0 (fun _ => true) true Try.f4.params.toList args.toList ds p := hA0
  rw [Try.params4] at hA hval
  obtain ⟨v0, vs0, d0, ds0, p0, q0, hargs, rfl, rfl, h0, r0⟩ := trodAll_cons hA
  obtain ⟨v1, vs1, d1, ds1, p1, q1, rfl, rfl, rfl, h1, r1⟩ := trodAll_cons r0
  obtain ⟨v2, vs2, d2, ds2, p2, q2, rfl, rfl, rfl, h2, r2⟩ := trodAll_cons r1
  obtain ⟨v3, vs3, d3, ds3, p3, q3, rfl, rfl, rfl, h3, r3⟩ := trodAll_cons r2
  obtain ⟨rfl, rfl, rfl⟩ := trodAll_nil r3
  obtain rfl : args = #[v0, v1, v2, v3] := by cases args; simp_all
  obtain ⟨rfl, rfl⟩ := trodVars_none hV
  obtain ⟨a0, len0, cap0, rfl⟩ := okWide_slice Try.underlying45 (hval 0 45 v0 rfl rfl)
  have k0 := h0
  have lt0 : ∀ x ∈ p0, x.block < W.heap.size := by obtain ⟨m, hm⟩ := k0; exact DataW.trod_lt m _ _ _ hm
  obtain ⟨z0, w0⟩ : ∃ zs, IsRow .u8 W a0 len0 cap0 zs := by
    obtain ⟨fuel, hf⟩ := h0
    rcases open_ints Try.underlying45 Try.underlying5 (by kernel_rfl) hf with ⟨hcs, _⟩ | ⟨x, l, c, zs, hcs, _, hl, hm, hz, _, hcell, hwz⟩
    · simp [Value.cells] at hcs
      obtain ⟨rfl, rfl, rfl⟩ := hcs
      exact ⟨[], .inl ⟨rfl, rfl, rfl, rfl⟩⟩
    · simp [Value.cells] at hcs
      obtain ⟨rfl, rfl, rfl⟩ := hcs
      exact ⟨zs, .inr ⟨_, rfl, hl, hm, by simpa using hz, hcell, hwz⟩⟩
  obtain ⟨a1, rfl, rfl, rfl, w1⟩ := open_int Try.underlying5 (hval 1 5 v1 rfl rfl) h1
  obtain ⟨a2, rfl, rfl, rfl, w2⟩ := open_int Try.underlying5 (hval 2 5 v2 rfl rfl) h2
  obtain ⟨a3, rfl, rfl, rfl, w3⟩ := open_int Try.underlying46 (hval 3 46 v3 rfl rfl) h3
  clear hA0 hval0
  refine (walk a0 len0 cap0 z0 a1 a2 a3 W w0 w1 w2 w3).mono fun e W' ⟨he, bel⟩ => ?_
  subst he
  exact ⟨_, rfl, _, _, _, [], _, [], hW', trodAll_mk1 (shut_bool Try.underlying4 _), (trodAll_cons_mk (Below.trod laidOut (by kernel_rfl) (of_decide_eq_true (by kernel_rfl)) k0 bel lt0) (trodAll_cons_mk (shut_int Try.underlying5 w1) (trodAll_cons_mk (shut_int Try.underlying5 w2) (trodAll_cons_mk (shut_int Try.underlying46 w3) trodAll_mk0)))), rfl, bel.frame _, fun h => by cases h⟩

theorem over : Rows.memoryApartRow.holds Try.pinned (OpenSpec.ofChange Rows.memoryApartSpec) :=
  OpenClaim.holds_of_wide 4 Try.f4 rfl rfl rfl rfl rfl rfl rfl ⟨rfl, rfl, rfl, rfl, rfl⟩ rfl rfl rfl rfl rfl (by kernel_rfl) Try.func4 (by kernel_rfl)
    (of_decide_eq_true (by kernel_rfl)) (by unfold Func.isWrapper; first | (rw [if_pos (by decide +kernel)]; kernel_rfl) | (rw [if_neg (by decide +kernel)]; exact ⟨rfl, rfl⟩))
    (fun os started H enc _ => lifted os started H enc)

/-- ████ THE STATEMENT ████ -/
theorem proved : Rows.MemoryApartSaid := over
#print axioms proved
end Go.Proofs.Ytkdfkibpoccmlaa.memoryApart
