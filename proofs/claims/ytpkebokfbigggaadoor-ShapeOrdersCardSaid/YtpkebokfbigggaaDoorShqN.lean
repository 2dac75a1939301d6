/-
  Package shape: order, plain.
-/
import Derived.Test.YtpkebokfbigggaaDoorShqM
namespace Go.Proofs.YtpkebokfbigggaaDoor.Shp
open Go.RowKit Go.Shelf
open Classical

/-! How many lead on to each. -/
noncomputable def cntE (n : Nat) (E : Nat → Nat → Prop) (b : Nat) : Nat := ((List.range n).filter fun a => decide (E a b)).length
noncomputable def waL (n : Nat) (E : Nat → Nat → Prop) : List Int := (List.range n).map fun b => (cntE n E b : Int)
section
variable {n k i : Nat} {E E' : Nat → Nat → Prop}
theorem cntE_le (n : Nat) (E : Nat → Nat → Prop) (b : Nat) : cntE n E b ≤ n := Nat.le_trans (List.length_filter_le _ _) (by simp)
theorem waL_len (n : Nat) (E : Nat → Nat → Prop) : (waL n E).length = n := by simp [waL]
theorem waL_at {b : Nat} (h : b < (waL n E).length) : (waL n E)[b] = (cntE n E b : Int) := by simp [waL]
theorem cntE_congr {b : Nat} (h : ∀ a, a < n → (E a b ↔ E' a b)) : cntE n E b = cntE n E' b := by
  unfold cntE
  congr 1
  exact List.filter_congr fun a ha => by rw [decide_eq_decide]; exact h a (List.mem_range.1 ha)
theorem waL_congr (h : ∀ a b, a < n → b < n → (E a b ↔ E' a b)) : waL n E = waL n E' := by
  unfold waL
  apply List.map_congr_left
  intro b hb
  rw [cntE_congr fun a ha => h a b ha (List.mem_range.1 hb)]
theorem cntE_add {b : Nat} (hk : k < n) (hn : ¬ E k b) (h : ∀ a, a < n → (E' a b ↔ E a b ∨ a = k)) : cntE n E' b = cntE n E b + 1 := by
  have := filter_or (List.nodup_range (n := n)) (List.mem_range.2 hk) (q := fun a => decide (E a b)) (decide_eq_false hn)
  unfold cntE
  rw [← this]
  congr 1
  refine List.filter_congr fun a ha => ?_
  rw [Bool.eq_iff_iff]
  simp only [Bool.or_eq_true, decide_eq_true_eq]
  rw [h a (List.mem_range.1 ha)]
  exact Or.comm
theorem waL_upd (h : ∀ a b, a < n → b < n → (E' a b ↔ E a b ∨ (a = k ∧ b = i))) : (waL n E).set i (cntE n E' i : Int) = waL n E' ∧ (waL n E').set i (cntE n E i : Int) = waL n E := by
  constructor
  · apply List.ext_getElem (by simp [waL])
    intro j h1 h2
    rw [List.getElem_set]
    rw [waL_len] at h2
    simp only [waL, List.getElem_map, List.getElem_range]
    by_cases e : i = j
    · subst e; rw [if_pos rfl]
    · rw [if_neg e, cntE_congr fun a ha => ?_]
      rw [h a j ha h2]
      exact ⟨.inl, fun q => q.elim id fun q => absurd q.2.symm e⟩
  · apply List.ext_getElem (by simp [waL])
    intro j h1 h2
    rw [List.getElem_set]
    rw [waL_len] at h2
    simp only [waL, List.getElem_map, List.getElem_range]
    by_cases e : i = j
    · subst e; rw [if_pos rfl]
    · rw [if_neg e, cntE_congr fun a ha => ?_]
      rw [h a j ha h2]
      exact ⟨fun q => q.elim id fun q => absurd q.2.symm e, .inl⟩
theorem cntE_zero {b : Nat} : cntE n E b = 0 ↔ ∀ a, a < n → ¬ E a b := by
  unfold cntE
  rw [List.length_eq_zero_iff, List.filter_eq_nil_iff]
  simp only [List.mem_range, decide_eq_true_eq]
end
section
variable {g : Gr} {f : Int} {k i a b : Nat} {pre dl : List Nat}
def onTo (g : Gr) (f : Int) (a b : Nat) : Prop := 0 ≤ f ∧ fwd g f.toNat a b
theorem onTo.lt (h : onTo g f a b) : a < g.length ∧ b < g.length := ⟨h.2.1.lt, (fwd_re h.2).lt⟩
def E1 (g : Gr) (f : Int) (k : Nat) (pre : List Nat) (a b : Nat) : Prop := onTo g f a b ∧ (a < k ∨ a = k ∧ b ∈ pre)
def E2 (g : Gr) (f : Int) (dl : List Nat) (a b : Nat) : Prop := onTo g f a b ∧ a ∉ dl
def E3 (g : Gr) (f : Int) (dl : List Nat) (k : Nat) (pre : List Nat) (a b : Nat) : Prop := onTo g f a b ∧ (a ∉ dl ∨ a = k ∧ b ∉ pre)
noncomputable def R1 (g : Gr) (f : Int) (k : Nat) (pre : List Nat) : Nat := setN g.length fun b => decide (ReI g f b ∧ ∀ a, ¬ E1 g f k pre a b)
noncomputable def R2 (g : Gr) (f : Int) (dl : List Nat) : Nat := setN g.length fun b => decide (free g f dl b)
noncomputable def R3 (g : Gr) (f : Int) (dl : List Nat) (k : Nat) (pre : List Nat) : Nat := setN g.length fun b => decide (free g f dl b ∧ (onTo g f k b → b ∈ pre))
theorem mem_on (hl : g.length ≤ 30) : b ∈ bitsL (onN g f a) ↔ onTo g f a b := by
  unfold onN
  rw [setN_bitsL (by omega), List.mem_filter, List.mem_range, decide_eq_true_eq]
  exact ⟨fun h => h.2, fun h => ⟨(fwd_re h.2).lt, h⟩⟩
theorem nd_set (hl : g.length ≤ 30) {p : Nat → Bool} (hp : pre ++ [i] <+: bitsL (setN g.length p)) : i ∉ pre ∧ i < g.length ∧ p i = true := by
  rw [setN_bitsL (by omega)] at hp
  have hnd : (pre ++ [i]).Nodup := (List.Pairwise.filter _ List.nodup_range).sublist hp.sublist
  have hm : i ∈ (List.range g.length).filter p := hp.subset (by simp)
  rw [List.mem_filter, List.mem_range] at hm
  refine ⟨fun h => ?_, hm⟩
  rw [List.nodup_append] at hnd
  exact hnd.2.2 i h i (by simp) rfl
theorem e1_zero : waL g.length (E1 g f 0 []) = List.replicate g.length 0 := by
  apply List.ext_getElem (by simp [waL])
  intro j h1 h2
  rw [waL_at, cntE_zero.2 fun a _ h => by rcases h.2 with h | h; exact absurd h (by omega); exact absurd h.2 (by simp)]
  simp
theorem r1_zero : R1 g f 0 [] = rN g f 0 := by
  refine ext_in fun b => ?_
  unfold R1 rN
  rw [in_setN, in_setN, decide_eq_true_eq, decide_eq_true_eq, rW_zero]
  exact ⟨fun h => ⟨h.1, h.2.1⟩, fun h => ⟨h.1, h.2, fun a q => by rcases q.2 with q | q; exact absurd q (by omega); exact absurd q.2 (by simp)⟩⟩
theorem e1_row (hl : g.length ≤ 30) : E1 g f k (bitsL (onN g f k)) a b ↔ E1 g f (k + 1) [] a b := by
  unfold E1
  rw [mem_on hl]
  constructor
  · rintro ⟨h1, h2⟩; exact ⟨h1, .inl (by omega)⟩
  · rintro ⟨h1, h2⟩
    refine ⟨h1, ?_⟩
    rcases h2 with h2 | h2
    · by_cases e : a = k
      · subst e; exact .inr ⟨rfl, h1⟩
      · exact .inl (by omega)
    · simp at h2
theorem r1_congr {k' : Nat} {pre' : List Nat} (h : ∀ a b, E1 g f k pre a b ↔ E1 g f k' pre' a b) : R1 g f k pre = R1 g f k' pre' := setN_congr fun b _ => by rw [decide_eq_decide]; simp only [h]
theorem e1_end : E1 g f g.length [] a b ↔ E2 g f [] a b := ⟨fun h => ⟨h.1, by simp⟩, fun h => ⟨h.1, .inl h.1.lt.1⟩⟩
theorem r1_end : R1 g f g.length [] = R2 g f [] := setN_congr fun b _ => by
  rw [decide_eq_decide]
  unfold free
  constructor
  · rintro ⟨h1, h2⟩; exact ⟨h1, by simp, fun a ha => absurd (e1_end.2 ⟨⟨h1.1, ha⟩, by simp⟩) (h2 a)⟩
  · rintro ⟨h1, _, h2⟩; exact ⟨h1, fun a ha => by have := h2 a ha.1.2; simp at this⟩
theorem e1_step : onTo g f k i → (E1 g f k (pre ++ [i]) a b ↔ E1 g f k pre a b ∨ (a = k ∧ b = i)) := fun ho => by
  unfold E1
  simp only [List.mem_append, List.mem_singleton]
  constructor
  · rintro ⟨h1, h2 | ⟨rfl, h2 | h2⟩⟩
    · exact .inl ⟨h1, .inl h2⟩
    · exact .inl ⟨h1, .inr ⟨rfl, h2⟩⟩
    · exact .inr ⟨rfl, h2⟩
  · rintro (⟨h1, h2 | h2⟩ | ⟨rfl, rfl⟩)
    · exact ⟨h1, .inl h2⟩
    · exact ⟨h1, .inr ⟨h2.1, .inl h2.2⟩⟩
    · exact ⟨ho, .inr ⟨rfl, .inr rfl⟩⟩
theorem e1_not (hi : i ∉ pre) : ¬ E1 g f k pre k i := by rintro ⟨_, h | h⟩; omega; exact hi h.2
theorem R1_lt : R1 g f k pre < 2 ^ g.length := setN_lt _ _
theorem R2_lt : R2 g f dl < 2 ^ g.length := setN_lt _ _
theorem R3_lt : R3 g f dl k pre < 2 ^ g.length := setN_lt _ _
theorem pow_lt_len (h : i < g.length) : 2 ^ i < 2 ^ g.length := Nat.pow_lt_pow_right (by decide) h
theorem r1_step (hl : g.length ≤ 30) (ho : onTo g f k i) : lessN (R1 g f k pre) (2 ^ i) = R1 g f k (pre ++ [i]) := by
  refine ext_in fun b => ?_
  rw [in_less (by omega) R1_lt (pow_lt_len ho.lt.2), in_pow]
  unfold R1
  rw [in_setN, in_setN, decide_eq_true_eq, decide_eq_true_eq]
  constructor
  · rintro ⟨⟨h1, h2, h3⟩, h4⟩
    exact ⟨h1, h2, fun a q => by rcases (e1_step ho).1 q with q | q; exact h3 a q; exact h4 q.2.symm⟩
  · rintro ⟨h1, h2, h3⟩
    exact ⟨⟨h1, h2, fun a q => h3 a ((e1_step ho).2 (.inl q))⟩, fun e => h3 k ((e1_step ho).2 (.inr ⟨rfl, e.symm⟩))⟩
theorem next_of (hl : g.length ≤ 30) (h : [i] <+: bitsL (R2 g f dl)) : nextF g f dl = some i := by
  unfold R2 at h
  rw [setN_bitsL (by omega)] at h
  obtain ⟨s, hs⟩ := h
  unfold nextF
  rw [← List.head?_filter, ← hs]
  rfl
theorem next_no (hl : g.length ≤ 30) (h : bitsL (R2 g f dl) = []) : nextF g f dl = none := by
  unfold R2 at h
  rw [setN_bitsL (by omega)] at h
  unfold nextF
  rw [← List.head?_filter, h]
  rfl
theorem e3_zero (hn : i ∉ dl) : E2 g f dl a b ↔ E3 g f (dl ++ [i]) i [] a b := by
  unfold E2 E3
  simp only [List.mem_append, List.mem_singleton, List.not_mem_nil, not_false_eq_true, and_true]
  constructor
  · rintro ⟨h1, h2⟩
    refine ⟨h1, ?_⟩
    by_cases e : a = i
    · exact .inr e
    · exact .inl fun q => q.elim h2 e
  · rintro ⟨h1, h2⟩
    refine ⟨h1, fun q => ?_⟩
    rcases h2 with h2 | h2
    · exact h2 (.inl q)
    · subst h2; exact hn q
theorem r3_zero (hl : g.length ≤ 30) (hf : free g f dl i) : lessN (R2 g f dl) (2 ^ i) = R3 g f (dl ++ [i]) i [] := by
  refine ext_in fun b => ?_
  rw [in_less (by omega) R2_lt (pow_lt_len hf.1.2.lt), in_pow]
  unfold R2 R3
  rw [in_setN, in_setN, decide_eq_true_eq, decide_eq_true_eq]
  unfold free
  simp only [List.mem_append, List.mem_singleton, List.not_mem_nil, imp_false]
  constructor
  · rintro ⟨⟨h1, h2, h3, h4⟩, h5⟩
    exact ⟨h1, ⟨h2, fun q => q.elim h3 fun e => h5 e.symm, fun a ha => .inl (h4 a ha)⟩, fun ho => hf.2.1 (h4 i ho.2)⟩
  · rintro ⟨h1, ⟨h2, h3, h4⟩, h5⟩
    refine ⟨⟨h1, h2, fun q => h3 (.inl q), fun a ha => ?_⟩, fun e => h3 (.inr e.symm)⟩
    rcases h4 a ha with q | q
    · exact q
    · subst q; exact absurd ⟨h2.1, ha⟩ h5
theorem e3_step (ho : onTo g f k i) (hp : i ∉ pre) : E3 g f dl k pre a b ↔ E3 g f dl k (pre ++ [i]) a b ∨ (a = k ∧ b = i) := by
  unfold E3
  simp only [List.mem_append, List.mem_singleton]
  constructor
  · rintro ⟨h1, h2⟩
    by_cases e : a = k ∧ b = i
    · exact .inr e
    · refine .inl ⟨h1, ?_⟩
      rcases h2 with h2 | ⟨h2, h3⟩
      · exact .inl h2
      · exact .inr ⟨h2, fun q => q.elim h3 fun q => e ⟨h2, q⟩⟩
  · rintro (⟨h1, h2⟩ | ⟨rfl, rfl⟩)
    · refine ⟨h1, ?_⟩
      rcases h2 with h2 | ⟨h2, h3⟩
      · exact .inl h2
      · exact .inr ⟨h2, fun q => h3 (.inl q)⟩
    · exact ⟨ho, .inr ⟨rfl, hp⟩⟩
theorem e3_not (hk : k ∈ dl) : ¬ E3 g f dl k (pre ++ [i]) k i := by rintro ⟨_, h | h⟩; exact h hk; exact h.2 (by simp)
theorem e3_none : (∀ a, a < g.length → ¬ E3 g f dl k (pre ++ [i]) a i) ↔ ∀ a, onTo g f a i → a ∈ dl := by
  constructor
  · intro h a ha
    exact Classical.byContradiction fun q => h a ha.lt.1 ⟨ha, .inl q⟩
  · rintro h a _ ⟨ha, q | q⟩
    · exact q (h a ha)
    · exact q.2 (by simp)
theorem e3_end (hl : g.length ≤ 30) : E3 g f dl k (bitsL (onN g f k)) a b ↔ E2 g f dl a b := by
  unfold E3 E2
  rw [mem_on hl]
  constructor
  · rintro ⟨h1, h2 | ⟨rfl, h2⟩⟩
    · exact ⟨h1, h2⟩
    · exact absurd h1 h2
  · rintro ⟨h1, h2⟩; exact ⟨h1, .inl h2⟩
theorem r3_end (hl : g.length ≤ 30) : R3 g f dl k (bitsL (onN g f k)) = R2 g f dl := setN_congr fun b _ => by
  rw [decide_eq_decide, mem_on hl]
  exact ⟨fun h => h.1, fun h => ⟨h, id⟩⟩
theorem free_now (hG : Good g f (dl ++ [k])) (ho : onTo g f k i) (h : ∀ a, onTo g f a i → a ∈ dl ++ [k]) : free g f (dl ++ [k]) i := by
  refine ⟨⟨ho.1, fwd_re ho.2⟩, fun q => ?_, fun a ha => h a ⟨ho.1, ha⟩⟩
  obtain ⟨p, hp, e⟩ := List.getElem_of_mem q
  obtain ⟨j, hj, e2⟩ := hG.pre p hp k (by rw [e]; exact ho.2)
  have hp' : p < dl.length + 1 := by simpa using hp
  have hjl : j < dl.length := by omega
  have hnd := hG.nd
  rw [List.nodup_append] at hnd
  rw [List.getElem_append_left hjl] at e2
  exact hnd.2.2 k (by rw [← e2]; exact List.getElem_mem hjl) k (by simp) rfl
theorem r3_add (hG : Good g f (dl ++ [k])) (ho : onTo g f k i) (h : ∀ a, onTo g f a i → a ∈ dl ++ [k]) : R3 g f (dl ++ [k]) k pre ||| 2 ^ i = R3 g f (dl ++ [k]) k (pre ++ [i]) := by
  refine ext_in fun b => ?_
  rw [in_or, in_pow]
  unfold R3
  rw [in_setN, in_setN, decide_eq_true_eq, decide_eq_true_eq]
  simp only [List.mem_append, List.mem_singleton]
  constructor
  · rintro (⟨h1, h2, h3⟩ | rfl)
    · exact ⟨h1, h2, fun q => .inl (h3 q)⟩
    · exact ⟨ho.lt.2, free_now hG ho h, fun _ => .inr rfl⟩
  · rintro ⟨h1, h2, h3⟩
    by_cases e : i = b
    · exact .inr e
    · exact .inl ⟨h1, h2, fun q => (h3 q).elim id fun q => absurd q.symm e⟩
theorem r3_not (h : ¬ ∀ a, onTo g f a i → a ∈ dl ++ [k]) : R3 g f (dl ++ [k]) k pre = R3 g f (dl ++ [k]) k (pre ++ [i]) := setN_congr fun b _ => by
  rw [decide_eq_decide]
  simp only [List.mem_append, List.mem_singleton]
  constructor
  · rintro ⟨h1, h2⟩; exact ⟨h1, fun q => .inl (h2 q)⟩
  · rintro ⟨h1, h2⟩
    refine ⟨h1, fun q => ?_⟩
    rcases h2 q with q | rfl
    · exact q
    · refine absurd (fun a ha => ?_) h
      have := h1.2.2 a ha.2
      simpa using this
end
end Go.Proofs.YtpkebokfbigggaaDoor.Shp
