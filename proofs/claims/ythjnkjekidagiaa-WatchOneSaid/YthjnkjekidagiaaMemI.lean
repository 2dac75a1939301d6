/-
  Contracts of the document's answer's helpers: Ints (are two lists of numbers one?), SameBlock.
-/
import Derived.Test.YthjnkjekidagiaaMemA
namespace Go.Proofs.Ythjnkjekidagiaa.Mem
open Go.RowKit

/-- A row of numbers: nil, or its cells. -/
theorem row_cells {w : World} {B : Nat} {v : Value} {l : List Int} (h : w.ownsRow B 3 1 v l.length (ints l)) :
    (v = .slice none 0 0 ∧ l = []) ∨ ∃ g c, v = .slice (some ⟨g, 0, none⟩) l.length c ∧ l.length ≤ c ∧ c ≤ maxLen ∧ ∀ j (hj : j < l.length), w.cell? ⟨g, j, none⟩ = some (.int .i64 l[j]) := by
  rcases h.2 with ⟨h1, h2⟩ | ⟨g, cap, c, h1, h2, h3, h4, h5, h6, h7⟩
  · exact .inl ⟨h1, List.eq_nil_of_length_eq_zero h2⟩
  · refine .inr ⟨g, cap, h1, h4, h5, fun j hj => ?_⟩
    have h8 : (c.toList.take (l.length * 1))[j]? = some (.int .i64 l[j]) := by rw [h7]; simp [ints, hj]
    rw [List.getElem?_take, if_pos (by omega)] at h8
    simpa [World.cell?, h3] using h8

theorem take_ne {l m : List Int} {k : Nat} (hk : k < l.length) (hm : k < m.length) (h : l[k] ≠ m[k]) : (l == m) = false := by
  rw [beq_eq_false_iff_ne]; intro e; subst e; exact h rfl
theorem take_succ {l m : List Int} {k : Nat} (hk : k < l.length) (hm : k < m.length) (h : l.take k = m.take k) (h' : l[k] = m[k]) : l.take (k + 1) = m.take (k + 1) := by
  rw [List.take_succ_eq_append_getElem hk, List.take_succ_eq_append_getElem hm, h, h']

set_option maxHeartbeats 2000000 in
theorem ints_any (w : World) {B C : Nat} {v u : Value} {l m : List Int} (h1 : w.ownsRow B 3 1 v l.length (ints l)) (h2 : w.ownsRow C 3 1 u m.length (ints m)) :
    Calls Try.prog 39 #[v, u] w fun e w' => e = .returned (.bool (l == m)) ∧ ∃ n, w' = w.drewN n := by
  by_cases hl : l.length = m.length
  case neg =>
    have e0 : (l == m) = false := by rw [beq_eq_false_iff_ne]; intro e; exact hl (by rw [e])
    rw [e0]
    obtain ⟨a, c, rfl⟩ : ∃ a c, v = .slice a l.length c := by
      rcases row_cells h1 with ⟨rfl, rfl⟩ | ⟨g, c, rfl, _⟩
      · exact ⟨_, _, rfl⟩
      · exact ⟨_, _, rfl⟩
    obtain ⟨b, d, rfl⟩ : ∃ a c, u = .slice a m.length c := by
      rcases row_cells h2 with ⟨rfl, rfl⟩ | ⟨g, c, rfl, _⟩
      · exact ⟨_, _, rfl⟩
      · exact ⟨_, _, rfl⟩
    have hl' : ((l.length : Int) != (m.length : Int)) = true := by rw [bne_iff_ne]; omega
    clear h1 h2 e0
    go_enter Try.func39, Try.ntmps39
    go_wp2
    go_ret
    exact ⟨rfl, 0, rfl⟩
  obtain ⟨a, c, rfl, hv⟩ : ∃ a c, v = .slice a l.length c ∧ ∀ j (hj : j < l.length), ∃ g, a = some ⟨g, 0, none⟩ ∧ l.length ≤ c ∧ c ≤ maxLen ∧ w.cell? ⟨g, j, none⟩ = some (.int .i64 l[j]) := by
    rcases row_cells h1 with ⟨rfl, rfl⟩ | ⟨g, c, rfl, h3, h4, h5⟩
    · exact ⟨_, _, rfl, fun j hj => absurd hj (by simp)⟩
    · exact ⟨_, _, rfl, fun j hj => ⟨g, rfl, h3, h4, h5 j hj⟩⟩
  obtain ⟨b, d, rfl, hu⟩ : ∃ a c, u = .slice a m.length c ∧ ∀ j (hj : j < m.length), ∃ g, a = some ⟨g, 0, none⟩ ∧ m.length ≤ c ∧ c ≤ maxLen ∧ w.cell? ⟨g, j, none⟩ = some (.int .i64 m[j]) := by
    rcases row_cells h2 with ⟨rfl, rfl⟩ | ⟨g, c, rfl, h3, h4, h5⟩
    · exact ⟨_, _, rfl, fun j hj => absurd hj (by simp)⟩
    · exact ⟨_, _, rfl, fun j hj => ⟨g, rfl, h3, h4, h5 j hj⟩⟩
  have Hv := Lib.hid hv
  have Hu := Lib.hid hu
  have hl' : ((l.length : Int) != (m.length : Int)) = false := by simp [hl]
  clear h1 h2 hv hu
  go_enter Try.func39, Try.ntmps39
  go_wp2
  go_loopw [5] (fun i wx => ∃ k n : Nat, k ≤ l.length ∧ i = .int .i64 k ∧ wx = w.drewN n ∧ Hid (l.take k = m.take k)) (fun i _ => l.length - (intOf i).toNat)
  case atStart => exact ⟨0, 0, by omega, rfl, rfl, Lib.hid rfl⟩
  case round =>
    obtain ⟨k, n, hk, rfl, rfl, Ht⟩ := hrel
    by_cases hk' : k < l.length
    case neg =>
      have e0 : (l == m) = true := by
        have := Ht.out
        rw [List.take_of_length_le (by omega), List.take_of_length_le (by omega)] at this
        rw [beq_iff_eq]; exact this
      go_wp2
      go_ret
      exact ⟨ret_bool e0.symm, n, rfl⟩
    have hkm : k < m.length := by omega
    obtain ⟨g, rfl, b1, b2, c1⟩ := Hv.out k hk'
    obtain ⟨g', rfl, b3, b4, c2⟩ := Hu.out k hkm
    simp only [maxLen] at b2 b4
    clear Hv Hu
    by_cases he : l[k] = m[k]
    · have He : Hid (l.take (k + 1) = m.take (k + 1)) := Lib.hid (take_succ hk' hkm Ht.out he)
      rw [← he] at c2
      generalize l[k] = x at c1 c2
      clear he
      go_wp2
      go_quiet (fail)
      go_wp2
      exact ⟨⟨k + 1, n + nq, by omega, by simp, rfl, He⟩, by simp [intOf]; omega⟩
    · have e0 := take_ne hk' hkm he
      have he' : (l[k] != m[k]) = true := by rw [bne_iff_ne]; exact he
      generalize l[k] = x at c1 he'
      generalize m[k] = y at c2 he'
      clear he
      go_wp2
      go_quiet (fail)
      go_wp2
      go_ret
      exact ⟨ret_bool e0.symm, n + nq, by rw [World.drewN_drewN]⟩
end Go.Proofs.Ythjnkjekidagiaa.Mem
