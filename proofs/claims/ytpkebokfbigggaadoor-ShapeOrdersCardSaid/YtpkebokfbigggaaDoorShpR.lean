/-
  Plain facts of graphs, the third part (stage 12): rings that are entered at one place or at two; a graph without what one node leads to. No program is named here.
-/
import Derived.Test.YtpkebokfbigggaaDoorShpQ
namespace Go.Proofs.YtpkebokfbigggaaDoor.Shp
open Classical

/-- A graph of which one node leads nowhere. -/
def cutG (g : Gr) (d : Nat) : Gr := (List.range g.length).map fun i => if i = d then [] else row g i
theorem cutG_len (g : Gr) (d : Nat) : (cutG g d).length = g.length := by simp [cutG]
theorem cutG_row {g : Gr} {d a : Nat} (h : a < g.length) : row (cutG g d) a = if a = d then [] else row g a := by
  unfold cutG
  conv => lhs; unfold row
  rw [List.getD_eq_getElem?_getD, List.getElem?_eq_getElem (by simpa using h)]
  simp [row, List.getD_eq_getElem?_getD]
theorem cutG_re {g : Gr} {f d : Nat} {y : Nat} (h : Re (cutG g d) f y) : y = d ∨ Av g f d y := by
  induction h with
  | start k _ =>
    rw [cutG_len] at k
    by_cases e : f = d
    · exact .inl e
    · exact .inr (.start k e)
  | @step a b _ k _ ih =>
    obtain ⟨k1, k2, k3⟩ := k
    rw [cutG_len] at k1 k2
    rw [cutG_row k1] at k3
    by_cases e : a = d
    · rw [if_pos e] at k3; cases k3
    · rw [if_neg e] at k3
      rcases ih with ih | ih
      · exact absurd ih e
      · by_cases e' : b = d
        · exact .inl e'
        · exact .inr (.step ih ⟨k1, k2, k3⟩ e')

/-- A ring of k nodes, entered from node k at x and at y. -/
def ringG (k x y : Nat) : Gr := (List.range k).map (fun i => [(((i + 1) % k : Nat) : Int)]) ++ [[(x : Int), (y : Int)]]
section
variable {k x y : Nat}
theorem ring_len : (ringG k x y).length = k + 1 := by simp [ringG]
theorem ring_row {i : Nat} (h : i < k) : row (ringG k x y) i = [(((i + 1) % k : Nat) : Int)] := by
  unfold row ringG
  rw [List.getD_eq_getElem?_getD, List.getElem?_append_left (by simpa using h)]
  simp [h]
theorem ring_last : row (ringG k x y) k = [(x : Int), (y : Int)] := by
  unfold row ringG
  rw [List.getD_eq_getElem?_getD, List.getElem?_append_right (by simp)]
  simp
theorem ring_edge (hk : 0 < k) (hx : x < k) (hy : y < k) {a b : Nat} : edge (ringG k x y) a b ↔ (a < k ∧ b = (a + 1) % k) ∨ (a = k ∧ (b = x ∨ b = y)) := by
  unfold edge
  rw [ring_len]
  constructor
  · rintro ⟨h1, h2, h3⟩
    by_cases e : a < k
    · rw [ring_row e, List.mem_singleton] at h3
      exact .inl ⟨e, by omega⟩
    · have : a = k := by omega
      subst this
      rw [ring_last] at h3
      simp only [List.mem_cons, List.not_mem_nil, or_false] at h3
      exact .inr ⟨rfl, by omega⟩
  · rintro (⟨h1, h2⟩ | ⟨h1, h2⟩)
    · have := Nat.mod_lt (a + 1) hk
      refine ⟨by omega, by omega, ?_⟩
      rw [ring_row h1, List.mem_singleton, h2]
    · subst h1
      refine ⟨by omega, by omega, ?_⟩
      rw [ring_last]
      rcases h2 with h2 | h2 <;> subst h2 <;> simp
/-- From s on, j steps. -/
theorem step_mod (s j : Nat) : ((s + j) % k + 1) % k = (s + j + 1) % k := by rw [Nat.add_mod ((s + j) % k), Nat.mod_mod, ← Nat.add_mod]
theorem mod_inj {s i j : Nat} (h : (s + i) % k = (s + j) % k) (hi : i < k) (hj : j < k) : i = j := by
  have h1 := Nat.div_add_mod (s + i) k
  have h2 := Nat.div_add_mod (s + j) k
  rw [h] at h1
  have h3 : k * ((s + i) / k) + j = k * ((s + j) / k) + i := by omega
  rcases Nat.lt_trichotomy ((s + i) / k) ((s + j) / k) with q | q | q
  · have := Nat.mul_le_mul_left k q
    rw [Nat.mul_succ] at this; omega
  · rw [q] at h3; omega
  · have := Nat.mul_le_mul_left k q
    rw [Nat.mul_succ] at this; omega
/-- Each node of the ring is some steps from s on. -/
theorem steps_to {s a : Nat} (hs : s < k) (ha : a < k) : ∃ j, j < k ∧ a = (s + j) % k := by
  by_cases e : s ≤ a
  · exact ⟨a - s, by omega, by rw [show s + (a - s) = a by omega, Nat.mod_eq_of_lt ha]⟩
  · refine ⟨a + k - s, by omega, ?_⟩
    rw [show s + (a + k - s) = a + k by omega, Nat.add_mod_right, Nat.mod_eq_of_lt ha]
/-- From an entry s on, j steps, b not among them. -/
theorem ring_av (hk : 0 < k) (hx : x < k) (hy : y < k) {s b : Nat} (hs : s = x ∨ s = y) (hb : b ≠ k) : ∀ j, (∀ i, i ≤ j → (s + i) % k ≠ b) → Av (ringG k x y) k b ((s + j) % k) := by
  intro j
  induction j with
  | zero =>
    intro h
    have h0 := h 0 (Nat.le_refl _)
    have hsk : s < k := by rcases hs with h | h <;> omega
    rw [Nat.add_zero, Nat.mod_eq_of_lt hsk] at h0 ⊢
    exact .step (.start (by rw [ring_len]; omega) (fun e => hb e.symm)) ((ring_edge hk hx hy).2 (.inr ⟨rfl, hs⟩)) h0
  | succ j ih =>
    intro h
    have := ih fun i hi => h i (by omega)
    refine .step this ((ring_edge hk hx hy).2 (.inl ⟨Nat.mod_lt _ hk, ?_⟩)) (h (j + 1) (Nat.le_refl _))
    rw [step_mod]; rfl
theorem ring_re (hk : 0 < k) (hx : x < k) (hy : y < k) {a : Nat} (h : a ≤ k) : Re (ringG k x y) k a := by
  by_cases e : a = k
  · subst e; exact .start (by rw [ring_len]; omega) not_false
  · obtain ⟨j, _, hj⟩ := steps_to hx (show a < k by omega)
    rw [hj]
    exact (ring_av hk hx hy (b := k + 1) (.inl rfl) (by omega) j fun i _ => by have := Nat.mod_lt (x + i) hk; omega).re
/-- A ring's edge is one back just where all ways go by its end. -/
theorem ring_dom (hk : 2 ≤ k) (hx : x < k) (hy : y < k) {a : Nat} (ha : a < k) : Dom (ringG k x y) k ((a + 1) % k) a ↔ x = y ∧ (a + 1) % k = x := by
  have hk0 : 0 < k := by omega
  have hne : (a + 1) % k ≠ a := by
    intro e
    have h1 := Nat.mod_eq_of_lt ha
    have := mod_inj (k := k) (s := a) (i := 1) (j := 0) (by rw [e, Nat.add_zero, h1]) (by omega) (by omega)
    omega
  have hbk : (a + 1) % k < k := Nat.mod_lt _ hk0
  constructor
  · intro h
    rcases h with h | h
    · exact absurd h hne
    have main : ∀ s, (s = x ∨ s = y) → s = (a + 1) % k := by
      intro s hs
      apply Classical.byContradiction
      intro no
      have hsk : s < k := by rcases hs with h | h <;> omega
      obtain ⟨j, hj, e⟩ := steps_to hsk ha
      have e1 : (a + 1) % k = (s + (j + 1)) % k := by rw [e, step_mod]; rfl
      have hj1 : j + 1 < k := by
        apply Classical.byContradiction
        intro h
        have : j + 1 = k := by omega
        rw [this, Nat.add_mod_right, Nat.mod_eq_of_lt hsk] at e1
        exact no e1.symm
      refine h.2.2 ?_
      rw [e1, e]
      refine ring_av hk0 hx hy hs (by have := Nat.mod_lt (s + (j + 1)) hk0; omega) j fun i hi q => ?_
      have := mod_inj q (by omega) hj1
      omega
    have h1 := main x (.inl rfl)
    have h2 := main y (.inr rfl)
    exact ⟨by omega, h1.symm⟩
  · rintro ⟨rfl, e⟩
    rw [e] at hne ⊢
    refine .inr ⟨hne, ring_re hk0 hx hy (by omega), fun h => ?_⟩
    have : ∀ z, Av (ringG k x x) k x z → z = k := by
      intro z hz
      induction hz with
      | start _ _ => rfl
      | @step c d _ q1 q2 ih =>
        subst ih
        rcases (ring_edge hk0 hx hy).1 q1 with ⟨q, _⟩ | ⟨_, q | q⟩
        · omega
        · exact absurd q q2
        · exact absurd q q2
    have := this a h
    omega
theorem ring_back (hk : 2 ≤ k) (hx : x < k) (hy : y < k) {a b : Nat} : back (ringG k x y) k a b ↔ a < k ∧ b = (a + 1) % k ∧ x = y ∧ b = x := by
  have hk0 : 0 < k := by omega
  unfold back
  rw [ring_edge hk0 hx hy]
  constructor
  · rintro ⟨_, ⟨h1, h2⟩ | ⟨h1, h2⟩, h3⟩
    · subst h2
      have := (ring_dom hk hx hy h1).1 h3
      exact ⟨h1, rfl, this.1, this.2⟩
    · subst h1
      rcases h3 with h3 | h3
      · omega
      · exact absurd h3 no_sdom_start
  · rintro ⟨h1, h2, h3, h4⟩
    refine ⟨ring_re hk0 hx hy (by omega), .inl ⟨h1, h2⟩, ?_⟩
    rw [h2]
    exact (ring_dom hk hx hy h1).2 ⟨h3, by rw [← h2]; exact h4⟩
theorem toNat_k : ((k : Int)).toNat = k := by omega
theorem ring_heads_one (hk : 2 ≤ k) (hx : x < k) : headL (ringG k x x) k = [(x : Int)] := by
  have hb : ∀ b, IsHead (ringG k x x) k b ↔ b = x := by
    intro b
    unfold IsHead
    rw [toNat_k]
    constructor
    · rintro ⟨_, a, h⟩
      exact ((ring_back hk hx hx).1 h).2.2.2
    · intro e
      subst e
      refine ⟨by omega, ?_⟩
      obtain ⟨j, hj, e⟩ := steps_to (k := k) (s := (b + 1) % k) (a := b) (Nat.mod_lt _ (by omega)) hx
      obtain ⟨p, hp, e'⟩ : ∃ p, p < k ∧ (p + 1) % k = b := by
        by_cases q : b = 0
        · exact ⟨k - 1, by omega, by rw [show k - 1 + 1 = k by omega, Nat.mod_self]; omega⟩
        · exact ⟨b - 1, by omega, by rw [show b - 1 + 1 = b by omega, Nat.mod_eq_of_lt hx]⟩
      exact ⟨p, (ring_back hk hx hx).2 ⟨hp, e'.symm, rfl, rfl⟩⟩
  have hn : headN (ringG k x x) k = [x] := by
    unfold headN
    have hd : (fun b => decide (IsHead (ringG k x x) k b)) = fun b => decide (b = x) := by
      funext b
      rw [decide_eq_decide]
      exact hb b
    rw [hd, ring_len]
    have : ∀ n, x < n → (List.range n).filter (fun b => decide (b = x)) = [x] := by
      intro n
      induction n with
      | zero => intro h; omega
      | succ n ih =>
        intro h
        rw [List.range_succ, List.filter_append]
        by_cases e : x = n
        · subst e
          rw [List.filter_eq_nil_iff.2 (fun a ha => by have := List.mem_range.1 ha; simp; omega)]
          simp
        · rw [ih (by omega)]
          simp; omega
    exact this _ (by omega)
  unfold headL
  rw [hn]; rfl
theorem ring_heads_two (hk : 2 ≤ k) (hx : x < k) (hy : y < k) (hn : x ≠ y) : headL (ringG k x y) k = [] := by
  have : headN (ringG k x y) k = [] := by
    unfold headN
    rw [List.filter_eq_nil_iff]
    intro b _
    simp only [decide_eq_true_eq]
    rintro ⟨_, a, h⟩
    rw [toNat_k] at h
    exact hn ((ring_back hk hx hy).1 h).2.2.1
  unfold headL
  rw [this]; rfl
theorem ring_fwd (hk : 2 ≤ k) (hx : x < k) (hy : y < k) {a b : Nat} : fwd (ringG k x y) k a b ↔ (a = k ∧ (b = x ∨ b = y)) ∨ (a < k ∧ b = (a + 1) % k ∧ ¬ (x = y ∧ b = x)) := by
  have hk0 : 0 < k := by omega
  unfold fwd
  rw [ring_edge hk0 hx hy]
  constructor
  · rintro ⟨_, ⟨h1, h2⟩ | ⟨h1, h2⟩, h3⟩
    · refine .inr ⟨h1, h2, fun q => h3 ?_⟩
      rw [h2]
      exact (ring_dom hk hx hy h1).2 ⟨q.1, by rw [← h2]; exact q.2⟩
    · exact .inl ⟨h1, h2⟩
  · rintro (⟨h1, h2⟩ | ⟨h1, h2, h3⟩)
    · subst h1
      refine ⟨ring_re hk0 hx hy (by omega), .inr ⟨rfl, h2⟩, ?_⟩
      rintro (h3 | h3)
      · omega
      · exact absurd h3 no_sdom_start
    · refine ⟨ring_re hk0 hx hy (by omega), .inl ⟨h1, h2⟩, fun q => h3 ?_⟩
      rw [h2] at q ⊢
      exact (ring_dom hk hx hy h1).1 q
theorem ring_red_one (hk : 2 ≤ k) (hx : x < k) : redB (ringG k x x) k = true := by
  rw [red_ranked (by omega)]
  refine ⟨fun b => if b = k then 0 else (b + (k - x)) % k + 1, fun a b h => ?_⟩
  rw [toNat_k] at h
  have hk0 : 0 < k := by omega
  rcases (ring_fwd hk hx hx).1 h with ⟨h1, h2⟩ | ⟨h1, h2, h3⟩
  · subst h1
    have : b = x := by omega
    subst this
    simp only [if_true]
    rw [if_neg (by omega)]; omega
  · have hbk : b < k := by rw [h2]; exact Nat.mod_lt _ hk0
    simp only []
    rw [if_neg (by omega), if_neg (by omega)]
    obtain ⟨j, hj, e⟩ := steps_to hx h1
    have hb : b = (x + (j + 1)) % k := by rw [h2, e, step_mod]; rfl
    have hj1 : j + 1 < k := by
      apply Classical.byContradiction
      intro q
      have : j + 1 = k := by omega
      rw [this, Nat.add_mod_right, Nat.mod_eq_of_lt hx] at hb
      exact h3 ⟨rfl, hb⟩
    have r : ∀ i, i < k → ((x + i) % k + (k - x)) % k = i := by
      intro i hi
      rw [Nat.add_mod, Nat.mod_mod, ← Nat.add_mod, show x + i + (k - x) = i + k by omega, Nat.add_mod_right, Nat.mod_eq_of_lt hi]
    rw [hb, e, r _ hj, r _ hj1]; omega
theorem ring_red_two (hk : 2 ≤ k) (hx : x < k) (hy : y < k) (hn : x ≠ y) : redB (ringG k x y) k = false := by
  rw [Bool.eq_false_iff]
  intro h
  obtain ⟨r, hr⟩ := (red_ranked (by omega)).1 h
  have hk0 : 0 < k := by omega
  have : ∀ j, r x + j ≤ r ((x + j) % k) := by
    intro j
    induction j with
    | zero => rw [Nat.add_zero, Nat.add_zero, Nat.mod_eq_of_lt hx]; exact Nat.le_refl _
    | succ j ih =>
      have := hr ((x + j) % k) ((x + (j + 1)) % k) (by
        rw [toNat_k]
        exact (ring_fwd hk hx hy).2 (.inr ⟨Nat.mod_lt _ hk0, by rw [step_mod]; rfl, fun q => hn q.1⟩))
      omega
  have := this k
  rw [Nat.add_mod_right, Nat.mod_eq_of_lt hx] at this
  omega
end
end Go.Proofs.YtpkebokfbigggaaDoor.Shp
