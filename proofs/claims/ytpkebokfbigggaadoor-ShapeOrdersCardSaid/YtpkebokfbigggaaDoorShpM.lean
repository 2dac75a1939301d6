/-
  What layer 12's statements call besides: Great, bools, Ints (of one list twice).
-/
import Derived.Test.YtpkebokfbigggaaDoorShpL
namespace Go.Proofs.YtpkebokfbigggaaDoor.Shp
open Go.RowKit

def greatTo (g : Gr) (k : Nat) : Bool := (List.range k).any fun i => decide (30 < (row g i).length)
theorem greatTo_zero (g : Gr) : greatTo g 0 = false := rfl
theorem greatTo_no {g : Gr} {k : Nat} (h : ¬ 30 < (row g k).length) : greatTo g (k + 1) = greatTo g k := by
  unfold greatTo
  rw [List.range_succ, List.any_append]
  simp [h]
theorem greatTo_yes {g : Gr} {k n : Nat} (hk : k < n) (h : 30 < (row g k).length) : greatTo g n = true := by
  unfold greatTo
  rw [List.any_eq_true]
  exact ⟨k, List.mem_range.2 hk, decide_eq_true h⟩
def greatB (g : Gr) : Bool := greatTo g (min 40 g.length) || decide (30 < g.length)
theorem great_small {g : Gr} (h : greatB g = false) : g.length ≤ 30 := by
  unfold greatB at h
  rw [Bool.or_eq_false_iff] at h
  have := of_decide_eq_false h.2
  omega
set_option maxRecDepth 100000 in
set_option maxHeartbeats 4000000 in
theorem great_any (w : World) (v : Value) (g : Gr) (hg : GraphAt w v g) :
    Calls Tryd.prog 7 #[v] w fun e w' => e = .returned (.bool (greatB g)) ∧ w = w' := by
  obtain ⟨ga, gc, rfl⟩ := hg.form
  have HG := Lib.hid hg
  have hgs := hg.small
  simp only [maxLen] at hgs
  generalize hr : greatB g = r
  have HR := Lib.hid hr
  clear hg hr
  go_enter Tryd.func7, Tryd.ntmps7
  go_wp2
  go_loop [3] (fun i => ∃ k : Nat, k ≤ 40 ∧ k ≤ g.length ∧ i = .int .i64 (k : Int) ∧ Hid (greatTo g k = false)) (fun i => 40 - (intOf i).toNat)
  case atStart => exact ⟨0, by omega, by omega, rfl, Lib.hid (greatTo_zero g)⟩
  case round =>
    obtain ⟨k, hk, hk2, rfl, HK⟩ := hrel
    by_cases hlt : k < g.length ∧ k < 40
    case neg =>
      have hm : min 40 g.length = k := by omega
      have e0 : r = decide (30 < g.length) := by rw [← HR.out]; unfold greatB; rw [hm, HK.out, Bool.false_or]
      have e0' : decide ((30 : Int) < (g.length : Int)) = decide (30 < g.length) := by rw [decide_eq_decide]; omega
      subst e0
      have E0 := Lib.hid e0'
      clear HK HR hm e0'
      by_cases hl : k < g.length
      · have hk40 : k = 40 := by omega
        subst hk40
        clear hlt
        go_wp2
        go_ret
        exact ⟨ret_bool (by first | exact E0.out | (have := E0.out; simpa using this)), rfl⟩
      · have hkg : k = g.length := by omega
        subst hkg
        clear hlt
        have hd2 : decide (g.length < g.length) = false := decide_eq_false (by omega)
        go_wp2
        all_goals
          go_ret
          exact ⟨ret_bool (by first | exact E0.out | (have := E0.out; simpa using this)), rfl⟩
    obtain ⟨hlt, hlt2⟩ := hlt
    obtain ⟨x, b, d, rfl, r1, r2, c2, hrow, hwf⟩ := HG.out.at hlt
    simp only [maxLen] at r2
    clear hrow hwf
    have hlt3 : (k : Int) < 40 := by omega
    by_cases hg : 30 < (row g k).length
    · have e0 : r = true := by rw [← HR.out]; unfold greatB; rw [greatTo_yes (show k < min 40 g.length by omega) hg, Bool.true_or]
      subst e0
      have hg' : (30 : Int) < ((row g k).length : Int) := by omega
      clear HK HR HG
      go_wp2
      go_ret
      exact ⟨rfl, rfl⟩
    · have HN := Lib.hid ((greatTo_no hg).trans HK.out)
      have hg' : ¬ (30 : Int) < ((row g k).length : Int) := by omega
      clear HK HR HG
      go_wp2
      go_round
      case rel => exact ⟨k + 1, by omega, by omega, by simp, HN⟩
      case measure => simp [intOf]; omega
set_option maxRecDepth 100000 in
set_option maxHeartbeats 4000000 in
theorem bools_same (w : World) (v u : Value) (l : List Bool) (hv : ListAt vb w v l) (hu : ListAt vb w u l) :
    Calls Tryd.prog 9 #[v, u] w fun e w' => e = .returned (.bool true) ∧ Hid (Kept w w') := by
  obtain ⟨va, vc, rfl⟩ := hv.form
  obtain ⟨ua, uc, rfl⟩ := hu.form
  have HV := Lib.hid hv
  have HU := Lib.hid hu
  have hs := hv.small
  simp only [maxLen] at hs
  have he : ((l.length : Int) != (l.length : Int)) = false := by simp
  clear hv hu
  go_enter Tryd.func9, Tryd.ntmps9
  go_wp2
  go_loopg [5] (l.length) (fun m i wr => ∃ k : Nat, m = l.length - k ∧ k ≤ l.length ∧ i = .int .i64 (k : Int) ∧ Hid (Kept w wr))
  case atStart => exact ⟨0, by omega, by omega, rfl, Lib.hid (Kept.refl w)⟩
  case round =>
    obtain ⟨k, rfl, hk, rfl, HK⟩ := hrel
    by_cases hlt : k < l.length
    case neg =>
      obtain rfl : k = l.length := by omega
      clear hlt
      go_wp2
      go_ret
      exact ⟨rfl, HK⟩
    obtain ⟨x, rfl, p1, p2, c1⟩ := (HV.out.kept HK.out).at hlt
    obtain ⟨y, rfl, p3, p4, c2⟩ := (HU.out.kept HK.out).at hlt
    simp only [maxLen] at p2 p4
    simp only [vb] at c1 c2
    generalize l[k] = z at *
    have hzz : (z != z) = false := by simp
    cases z
    all_goals
      go_wp2
      go_quiet (fail)
      go_wp2
      go_roundg (l.length - (k + 1))
      case measure => omega
      case rel => exact ⟨k + 1, rfl, by omega, by simp, Lib.hid (HK.out.drewN _)⟩
set_option maxRecDepth 100000 in
set_option maxHeartbeats 4000000 in
theorem ints_same (w : World) (v u : Value) (l : List Int) (hv : ListAt vi w v l) (hu : ListAt vi w u l) :
    Calls Tryd.prog 12 #[v, u] w fun e w' => e = .returned (.bool true) ∧ Hid (Kept w w') := by
  obtain ⟨va, vc, rfl⟩ := hv.form
  obtain ⟨ua, uc, rfl⟩ := hu.form
  have HV := Lib.hid hv
  have HU := Lib.hid hu
  have hs := hv.small
  simp only [maxLen] at hs
  have he : ((l.length : Int) != (l.length : Int)) = false := by simp
  clear hv hu
  go_enter Tryd.func12, Tryd.ntmps12
  go_wp2
  go_loopg [5] (l.length) (fun m i wr => ∃ k : Nat, m = l.length - k ∧ k ≤ l.length ∧ i = .int .i64 (k : Int) ∧ Hid (Kept w wr))
  case atStart => exact ⟨0, by omega, by omega, rfl, Lib.hid (Kept.refl w)⟩
  case round =>
    obtain ⟨k, rfl, hk, rfl, HK⟩ := hrel
    by_cases hlt : k < l.length
    case neg =>
      obtain rfl : k = l.length := by omega
      clear hlt
      go_wp2
      go_ret
      exact ⟨rfl, HK⟩
    obtain ⟨x, rfl, p1, p2, c1⟩ := (HV.out.kept HK.out).at hlt
    obtain ⟨y, rfl, p3, p4, c2⟩ := (HU.out.kept HK.out).at hlt
    simp only [maxLen] at p2 p4
    simp only [vi] at c1 c2
    generalize l[k] = z at *
    have hzz : (z != z) = false := by simp
    go_wp2
    go_quiet (fail)
    go_wp2
    go_roundg (l.length - (k + 1))
    case measure => omega
    case rel => exact ⟨k + 1, rfl, by omega, by simp, Lib.hid (HK.out.drewN _)⟩
end Go.Proofs.YtpkebokfbigggaaDoor.Shp
