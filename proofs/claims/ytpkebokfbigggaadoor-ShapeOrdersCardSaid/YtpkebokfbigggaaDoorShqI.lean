/-
  Package shape: Dominates.
-/
import Derived.Test.YtpkebokfbigggaaDoorShqA
import Derived.Test.YtpkebokfbigggaaDoorShpQ
namespace Go.Proofs.YtpkebokfbigggaaDoor.Shp
open Go.RowKit

def itF (d : List Int) (b : Int) : Nat → Int
  | 0 => b
  | k + 1 => d.getD (itF d b k).toNat 0
theorem itF_shift (d : List Int) (b : Int) : ∀ k, itF d (d.getD b.toNat 0) k = itF d b (k + 1)
  | 0 => rfl
  | k + 1 => by show d.getD (itF d (d.getD b.toNat 0) k).toNat 0 = _; rw [itF_shift d b k]; rfl
theorem domF_it (d : List Int) (a : Int) : ∀ (m : Nat) (b : Int), domF d a m b = true ↔ ∃ k, k < m ∧ (∀ i, i ≤ k → 0 ≤ itF d b i ∧ itF d b i < (d.length : Int)) ∧ itF d b k = a
  | 0, b => by simp [domF]
  | m + 1, b => by
    unfold domF
    by_cases h : b < 0 ∨ (d.length : Int) ≤ b
    · rw [if_pos h]
      refine ⟨fun h => by simp at h, ?_⟩
      rintro ⟨k, _, h2, _⟩
      have := h2 0 (by omega)
      simp only [itF] at this
      omega
    rw [if_neg h]
    by_cases e : a = b
    · rw [if_pos e]
      exact ⟨fun _ => ⟨0, by omega, fun i hi => by obtain rfl : i = 0 := by omega
                                                   simp only [itF]; omega, e.symm⟩, fun _ => rfl⟩
    rw [if_neg e, domF_it d a m]
    constructor
    · rintro ⟨k, h1, h2, h3⟩
      refine ⟨k + 1, by omega, fun i hi => ?_, by rw [← itF_shift]; exact h3⟩
      cases i with
      | zero => simp only [itF]; omega
      | succ i => rw [← itF_shift]; exact h2 i (by omega)
    · rintro ⟨k, h1, h2, h3⟩
      cases k with
      | zero => exact absurd h3.symm e
      | succ k => exact ⟨k, by omega, fun i hi => by rw [itF_shift]; exact h2 (i + 1) (by omega), by rw [itF_shift]; exact h3⟩
theorem itF_eq (d : List Int) (b : Int) {i j : Nat} (h : itF d b i = itF d b j) : ∀ m, itF d b (i + m) = itF d b (j + m)
  | 0 => h
  | m + 1 => by show d.getD (itF d b (i + m)).toNat 0 = d.getD (itF d b (j + m)).toNat 0; rw [itF_eq d b h m]
/-- One step more than there are places tells nothing new. -/
theorem domF_len (d : List Int) (a b : Int) : domF d a (d.length + 1) b = domF d a d.length b := by
  rw [Bool.eq_iff_iff, domF_it, domF_it]
  constructor
  · rintro ⟨k, h1, h2, h3⟩
    have hex : ∃ k, (∀ i, i ≤ k → 0 ≤ itF d b i ∧ itF d b i < (d.length : Int)) ∧ itF d b k = a := ⟨k, h2, h3⟩
    have hmin : ∀ n, (∃ k, k ≤ n ∧ (∀ i, i ≤ k → 0 ≤ itF d b i ∧ itF d b i < (d.length : Int)) ∧ itF d b k = a) → ∃ k, (∀ i, i ≤ k → 0 ≤ itF d b i ∧ itF d b i < (d.length : Int)) ∧ itF d b k = a ∧ ∀ j, j < k → itF d b j ≠ a := by
      intro n
      induction n with
      | zero =>
        rintro ⟨k, hk, q1, q2⟩
        obtain rfl : k = 0 := by omega
        exact ⟨0, q1, q2, fun j hj => by omega⟩
      | succ n ih =>
        rintro ⟨k, hk, q1, q2⟩
        by_cases hj : ∃ j, j < k ∧ itF d b j = a
        · obtain ⟨j, hj1, hj2⟩ := hj
          exact ih ⟨j, by omega, fun i hi => q1 i (by omega), hj2⟩
        · exact ⟨k, q1, q2, fun j hj1 hj2 => hj ⟨j, hj1, hj2⟩⟩
    obtain ⟨k, q1, q2, q3⟩ := hmin k ⟨k, Nat.le_refl _, h2, h3⟩
    refine ⟨k, ?_, q1, q2⟩
    have hn : ((List.range (k + 1)).map fun i => (itF d b i).toNat).Nodup := by
      rw [List.nodup_iff_pairwise_ne, List.pairwise_map]
      refine List.Pairwise.imp_of_mem ?_ (List.nodup_iff_pairwise_ne.1 (List.nodup_range (n := k + 1)))
      intro x y hx hy hne e
      rw [List.mem_range] at hx hy
      have hb1 := q1 x (by omega)
      have hb2 := q1 y (by omega)
      have e' : itF d b x = itF d b y := by omega
      by_cases hxy : x < y
      · have := itF_eq d b e' (k - y)
        rw [show y + (k - y) = k by omega, q2] at this
        exact q3 _ (by omega) this
      · have := itF_eq d b e'.symm (k - x)
        rw [show x + (k - x) = k by omega, q2] at this
        exact q3 _ (by omega) this
    have hs : ∀ x ∈ (List.range (k + 1)).map (fun i => (itF d b i).toNat), x ∈ List.range d.length := by
      intro x hx
      obtain ⟨i, hi, rfl⟩ := List.mem_map.1 hx
      rw [List.mem_range] at hi ⊢
      have := q1 i (by omega)
      omega
    have := len_le _ _ hn hs
    simp at this
    omega
  · rintro ⟨k, h1, h2⟩
    exact ⟨k, by omega, h2⟩
set_option maxRecDepth 100000 in
set_option maxHeartbeats 4000000 in
theorem sdominates_any (w : World) (v : Value) (d : List Int) (a b : Int) (hg : ListAt vi w v d) (hl : d.length ≤ 60) :
    Calls Tryd.prog 15 #[v, .int .i64 a, .int .i64 b] w fun e w' => e = .returned (.bool (domB d a b)) ∧ ∃ m, w' = w.drewN m := by
  obtain ⟨ga, gc, rfl⟩ := hg.form
  have hsm := hg.small
  have HL := Lib.hid hg
  obtain ⟨z, hz⟩ : ∃ z, domB d a b = z := ⟨_, rfl⟩
  rw [hz]
  unfold domB at hz
  rw [domF_len] at hz
  have HZ : Hid (domF d a (d.length - 0) b = z) := Lib.hid hz
  clear hg hz
  go_enter Tryd.func15, Tryd.ntmps15
  go_wp2
  go_loopg [2, 12] (d.length) (fun m vb i wz => ∃ (k : Nat) (cur : Int), m = d.length - k ∧ k ≤ d.length ∧ vb = .int .i64 cur ∧ i = .int .i64 (k : Int) ∧ wz = w ∧ Hid (domF d a (d.length - k) cur = z))
  case atStart => exact ⟨0, b, by omega, by omega, rfl, rfl, rfl, HZ⟩
  case round =>
    clear HZ
    obtain ⟨k, cur, rfl, hk, rfl, rfl, rfl, HZ⟩ := hrel
    by_cases hlt : k < d.length
    case neg =>
      obtain rfl : k = d.length := by omega
      have hz : false = z := by have := HZ.out; rw [Nat.sub_self] at this; exact this
      subst hz
      clear hlt
      go_wp2
      go_ret
      exact ⟨rfl, 0, rfl⟩
    case pos =>
      have hz := HZ.out
      rw [show d.length - k = (d.length - (k + 1)) + 1 by omega] at hz
      unfold domF at hz
      have HWi := Lib.hid (fun W => within_any W cur d.length)
      by_cases hin : 0 ≤ cur ∧ cur < (d.length : Int)
      case neg =>
        rw [if_pos (by omega)] at hz
        subst hz
        rw [decide_eq_false hin] at HWi
        clear hin
        go_wp2_with (go_at_call 30; refine (HWi.out _).mono ?_; rintro e w1 ⟨rfl, rfl⟩)
        go_ret
        exact ⟨rfl, 0, rfl⟩
      case pos =>
        rw [if_neg (by omega)] at hz
        rw [decide_eq_true hin] at HWi
        by_cases hac : a = cur
        · subst hac
          rw [if_pos rfl] at hz
          subst hz
          have he : ((a : Int) == a) = true := by simp
          clear hin
          go_wp2_with (go_at_call 30; refine (HWi.out _).mono ?_; rintro e w1 ⟨rfl, rfl⟩)
          go_ret
          exact ⟨rfl, 0, rfl⟩
        · rw [if_neg hac] at hz
          have HZ2 := Lib.hid hz
          have he : ((a : Int) == cur) = false := by rw [beq_eq_false_iff_ne]; exact hac
          obtain ⟨q, rfl⟩ : ∃ q : Nat, cur = q := ⟨cur.toNat, by omega⟩
          have hq : q < d.length := by omega
          obtain ⟨x, rfl, h1, h2, hc⟩ := HL.out.at hq
          simp only [maxLen, vi] at h2 hc hsm
          have hdq : Hid (d.getD (q : Int).toNat 0 = d[q]) := Lib.hid (by rw [Int.toNat_natCast, List.getD_eq_getElem?_getD, List.getElem?_eq_getElem hq]; rfl)
          generalize hdv : d[q] = u at *
          clear hz hac hin hdv
          go_wp2_with (go_at_call 30; refine (HWi.out _).mono ?_; rintro e w1 ⟨rfl, rfl⟩)
          go_roundg (d.length - (k + 1))
          case measure => omega
          case rel => exact ⟨k + 1, u, rfl, by omega, rfl, by simp, rfl, by rw [hdq.out] at HZ2; exact HZ2⟩
end Go.Proofs.YtpkebokfbigggaaDoor.Shp
