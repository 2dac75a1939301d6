/-
  The document's Dominates and backs (package calliperref10).
-/
import Derived.Test.YtpkebokfbigggaaDoorShpA
import Derived.Test.YtpkebokfbigggaaDoorShpP
namespace Go.Proofs.YtpkebokfbigggaaDoor.Shp
open Go.RowKit

theorem domF_out (d : List Int) (a : Int) (k : Nat) (b : Int) (h : b < 0 ∨ (d.length : Int) ≤ b) : domF d a (k + 1) b = false := by unfold domF; rw [if_pos h]
theorem domF_hit (d : List Int) (k : Nat) (b : Int) (h : 0 ≤ b ∧ b < d.length) : domF d b (k + 1) b = true := by unfold domF; rw [if_neg (by omega), if_pos rfl]
theorem domF_on (d : List Int) (a : Int) (k j : Nat) (h : j < d.length) (hn : a ≠ j) : domF d a (k + 1) j = domF d a k d[j] := by
  conv => lhs; unfold domF
  rw [if_neg (by omega), if_neg hn, Int.toNat_natCast, List.getD_eq_getElem?_getD, List.getElem?_eq_getElem h]; rfl
set_option maxRecDepth 100000 in
set_option maxHeartbeats 4000000 in
theorem dominates_any (w : World) (v : Value) (d : List Int) (a b : Int) (hv : ListAt vi w v d) (hl : d.length ≤ 100000) :
    Calls Tryd.prog 16 #[v, .int .i64 a, .int .i64 b] w fun e w' => e = .returned (.bool (domB d a b)) ∧ w = w' := by
  obtain ⟨da, dc, rfl⟩ := hv.form
  have HV := Lib.hid hv
  unfold domB
  generalize hr : domF d a (d.length + 1) b = r
  have HR := Lib.hid hr
  clear hv hr
  go_enter Tryd.func16, Tryd.ntmps16
  go_wp2
  go_loop [2, 7] (fun vb i => ∃ (k : Nat) (c : Int), k ≤ d.length + 1 ∧ i = .int .i64 (k : Int) ∧ vb = .int .i64 c ∧ Hid (domF d a (d.length + 1 - k) c = r)) (fun _ i => d.length + 1 - (intOf i).toNat)
  case atStart => exact ⟨0, b, Nat.zero_le _, rfl, rfl, HR⟩
  case round =>
    obtain ⟨k, c, hk, rfl, rfl, HK⟩ := hrel
    clear HR
    by_cases hlt : k ≤ d.length
    case neg =>
      have hk' : d.length + 1 - k = 0 := by omega
      have hn : decide ((k : Int) ≤ (d.length : Int)) = false := decide_eq_false (by omega)
      rw [hk'] at HK
      obtain rfl : false = r := HK.out
      clear HK HV hk'
      go_wp2
      go_ret
      exact ⟨rfl, rfl⟩
    have hk' : d.length + 1 - k = (d.length - k) + 1 := by omega
    rw [hk'] at HK
    clear hk'
    by_cases hneg : c < 0
    · have e0 := HK.out
      rw [domF_out d a _ c (.inl hneg)] at e0
      subst e0
      clear HK HV
      go_wp2
      go_ret
      exact ⟨rfl, rfl⟩
    by_cases hgt : (d.length : Int) ≤ c
    · have e0 := HK.out
      rw [domF_out d a _ c (.inr hgt)] at e0
      subst e0
      have h0 : 0 ≤ c := by omega
      clear HK HV
      go_wp2
      go_ret
      exact ⟨rfl, rfl⟩
    obtain ⟨j, rfl⟩ : ∃ j : Nat, c = j := ⟨c.toNat, by omega⟩
    have hj : j < d.length := by omega
    have hg1 : decide ((d.length : Int) ≤ (j : Int)) = false := decide_eq_false (by omega)
    have hg2 : decide (d.length ≤ j) = false := decide_eq_false (by omega)
    clear hneg hgt
    by_cases ha : a = j
    · subst ha
      have e0 := HK.out
      rw [domF_hit d _ j (by omega)] at e0
      subst e0
      have hb : ((j : Int) == (j : Int)) = true := by simp
      clear HK HV
      go_wp2
      go_ret
      exact ⟨rfl, rfl⟩
    · have HN := Lib.hid ((domF_on d a (d.length - k) j hj ha).symm.trans HK.out)
      have hb : (a == (j : Int)) = false := by rw [beq_eq_false_iff_ne]; exact ha
      obtain ⟨x, rfl, h1, h2, c1⟩ := HV.out.at hj
      simp only [maxLen] at h2
      simp only [vi] at c1
      generalize d[j] = z at *
      clear HK HV ha
      go_wp2
      go_round
      case rel => exact ⟨k + 1, z, by omega, by simp, rfl, by rw [show d.length + 1 - (k + 1) = d.length - k by omega]; exact HN⟩
      case measure => simp [intOf]; omega
/-- Is an edge one back? -/
def backB (d : List Int) (r : List Bool) (a b : Int) : Bool := decide (0 ≤ b ∧ b < (r.length : Int)) && (r.getD a.toNat false && domB d b a)
set_option maxRecDepth 100000 in
set_option maxHeartbeats 4000000 in
theorem backs_any (w : World) (vd vr : Value) (d : List Int) (r : List Bool) (a : Nat) (b : Int) (hd : ListAt vi w vd d) (hr : ListAt vb w vr r) (hl : d.length ≤ 100000) (hrl : r.length ≤ 100000) (ha : a < r.length) :
    Calls Tryd.prog 32 #[vd, vr, .int .i64 (a : Int), .int .i64 b] w fun e w' => e = .returned (.bool (backB d r a b)) ∧ w = w' := by
  obtain ⟨da, dc, rfl⟩ := hd.form
  obtain ⟨ra, rc, rfl⟩ := hr.form
  have HD := Lib.hid (dominates_any w _ d b a hd hl)
  obtain ⟨x, rfl, h1, h2, c1⟩ := hr.at ha
  have eb : backB d r a b = (decide (0 ≤ b ∧ b < (r.length : Int)) && (r[a] && domB d b a)) := by
    unfold backB
    rw [Int.toNat_natCast, List.getD_eq_getElem?_getD, List.getElem?_eq_getElem ha]; rfl
  simp only [maxLen] at h2
  simp only [vb] at c1
  rw [eb]
  clear hd hr eb
  generalize r[a] = z at *
  generalize hq : domB d b a = q at *
  clear hq
  by_cases hneg : b < 0
  · have e0 : decide (0 ≤ b ∧ b < (r.length : Int)) = false := decide_eq_false (by omega)
    have e1 : decide (0 ≤ b) = false := decide_eq_false (by omega)
    rw [e0]
    clear e0 HD
    go_enter Tryd.func32, Tryd.ntmps32
    go_wp2
    go_ret
    exact ⟨rfl, rfl⟩
  by_cases hgt : (r.length : Int) ≤ b
  · have e0 : decide (0 ≤ b ∧ b < (r.length : Int)) = false := decide_eq_false (by omega)
    have e1 : decide (b < (r.length : Int)) = false := decide_eq_false (by omega)
    have e2 : 0 ≤ b := by omega
    rw [e0]
    clear e0 HD hneg
    go_enter Tryd.func32, Tryd.ntmps32
    go_wp2
    go_ret
    exact ⟨rfl, rfl⟩
  have e0 : decide (0 ≤ b ∧ b < (r.length : Int)) = true := decide_eq_true (by omega)
  have e1 : 0 ≤ b := by omega
  have e2 : b < (r.length : Int) := by omega
  have e3 : decide (0 ≤ b) = true := decide_eq_true e1
  have e4 : decide (b < (r.length : Int)) = true := decide_eq_true e2
  rw [e0]
  clear e0 hneg hgt
  cases z
  case' false =>
    clear HD
    go_enter Tryd.func32, Tryd.ntmps32
    go_wp2
    go_ret
    exact ⟨rfl, rfl⟩
  case' true =>
    go_enter Tryd.func32, Tryd.ntmps32
    go_wp2_with (go_at_call 16; refine (HD.out).mono ?_; rintro e w' ⟨rfl, rfl⟩)
    go_ret
    exact ⟨by simp, rfl⟩
end Go.Proofs.YtpkebokfbigggaaDoor.Shp
