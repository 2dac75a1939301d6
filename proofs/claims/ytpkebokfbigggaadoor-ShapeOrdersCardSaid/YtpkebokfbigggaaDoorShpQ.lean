/-
  Plain facts of graphs, the second part (stage 12): edges back and forward, heads, the order that always takes the least of those that may come next. No program is named here.
-/
import Derived.Test.YtpkebokfbigggaaDoorShpP
namespace Go.Proofs.YtpkebokfbigggaaDoor.Shp
open Classical
variable {g : Gr}

def back (g : Gr) (f a b : Nat) : Prop := Re g f a ∧ edge g a b ∧ Dom g f b a
def fwd (g : Gr) (f a b : Nat) : Prop := Re g f a ∧ edge g a b ∧ ¬ Dom g f b a
theorem fwd_re {f a b : Nat} (h : fwd g f a b) : Re g f b := .step h.1 h.2.1 not_false
def IsHead (g : Gr) (f : Int) (b : Nat) : Prop := 0 ≤ f ∧ ∃ a, back g f.toNat a b
theorem IsHead.lt {f : Int} {b : Nat} (h : IsHead g f b) : b < g.length := by obtain ⟨_, a, h⟩ := h; exact h.2.1.2.1
noncomputable def headN (g : Gr) (f : Int) : List Nat := (List.range g.length).filter fun b => decide (IsHead g f b)
noncomputable def headL (g : Gr) (f : Int) : List Int := (headN g f).map Int.ofNat
theorem mem_headL {f : Int} {b : Nat} : (b : Int) ∈ headL g f ↔ IsHead g f b := by
  unfold headL headN
  rw [List.mem_map]
  constructor
  · rintro ⟨c, hc, e⟩
    have : c = b := by have : (c : Int) = b := e; omega
    subst this
    exact of_decide_eq_true (List.mem_filter.1 hc).2
  · intro h
    exact ⟨b, List.mem_filter.2 ⟨List.mem_range.2 h.lt, decide_eq_true h⟩, rfl⟩

def free (g : Gr) (f : Int) (done : List Nat) (b : Nat) : Prop := ReI g f b ∧ b ∉ done ∧ ∀ a, fwd g f.toNat a b → a ∈ done
noncomputable def nextF (g : Gr) (f : Int) (done : List Nat) : Option Nat := (List.range g.length).find? fun b => decide (free g f done b)
noncomputable def ordF (g : Gr) (f : Int) : Nat → List Nat → List Nat
  | 0, done => done
  | k + 1, done => match nextF g f done with
    | none => done
    | some b => ordF g f k (done ++ [b])
noncomputable def reN (g : Gr) (f : Int) : List Nat := (List.range g.length).filter fun x => decide (ReI g f x)
noncomputable def cntR (g : Gr) (f : Int) : Nat := (reN g f).length
noncomputable def ordL (g : Gr) (f : Int) : List Nat := ordF g f (cntR g f) []
noncomputable def redB (g : Gr) (f : Int) : Bool := decide ((ordL g f).length = cntR g f)
noncomputable def orderL (g : Gr) (f : Int) : List Int := if redB g f then (ordL g f).map Int.ofNat else []
theorem mem_reN {f : Int} {x : Nat} : x ∈ reN g f ↔ ReI g f x := by
  unfold reN
  rw [List.mem_filter, List.mem_range, decide_eq_true_iff]
  exact ⟨fun h => h.2, fun h => ⟨h.2.lt, h⟩⟩
theorem nextF_some {f : Int} {done : List Nat} {b : Nat} (h : nextF g f done = some b) : free g f done b := of_decide_eq_true (List.find?_some (p := fun b => decide (free g f done b)) h)
theorem nextF_none {f : Int} {done : List Nat} (h : nextF g f done = none) (b : Nat) : ¬ free g f done b := fun k => by
  have := List.find?_eq_none.1 h b (List.mem_range.2 k.1.2.lt)
  exact this (decide_eq_true k)

/-- What is done so far: each once, reached, each behind those that lead forward to it. -/
structure Good (g : Gr) (f : Int) (done : List Nat) : Prop where
  nd : done.Nodup
  re : ∀ x ∈ done, ReI g f x
  pre : ∀ (i : Nat) (h : i < done.length) (a : Nat), fwd g f.toNat a done[i] → ∃ (j : Nat) (hj : j < i), done[j]'(Nat.lt_trans hj h) = a
theorem Good.nil (f : Int) : Good g f [] := ⟨List.nodup_nil, by simp, fun i h => absurd h (by simp)⟩
theorem Good.snoc {f : Int} {done : List Nat} {b : Nat} (h : Good g f done) (k : free g f done b) : Good g f (done ++ [b]) := by
  refine ⟨?_, ?_, ?_⟩
  · rw [List.nodup_append]
    refine ⟨h.nd, by simp, fun x hx y hy => ?_⟩
    rw [List.mem_singleton] at hy
    subst hy
    intro e; subst e; exact k.2.1 hx
  · intro x hx
    rcases List.mem_append.1 hx with hx | hx
    · exact h.re x hx
    · rw [List.mem_singleton] at hx; subst hx; exact k.1
  · intro i hi a ha
    by_cases hlt : i < done.length
    · rw [List.getElem_append_left hlt] at ha
      obtain ⟨j, hj, e⟩ := h.pre i hlt a ha
      exact ⟨j, hj, by rw [List.getElem_append_left (by omega)]; exact e⟩
    · have hi' : i = done.length := by rw [List.length_append] at hi; simp at hi; omega
      subst hi'
      have e : (done ++ [b])[done.length] = b := by simp
      rw [e] at ha
      obtain ⟨j, hj, e⟩ := List.getElem_of_mem (k.2.2 a ha)
      exact ⟨j, hj, by rw [List.getElem_append_left hj]; exact e⟩
theorem ordF_good {f : Int} : ∀ (k : Nat) (done : List Nat), Good g f done → Good g f (ordF g f k done) := by
  intro k
  induction k with
  | zero => intro done h; exact h
  | succ k ih =>
    intro done h
    unfold ordF
    cases e : nextF g f done with
    | none => exact h
    | some b => exact ih _ (h.snoc (nextF_some e))
theorem ordF_len (f : Int) : ∀ (k : Nat) (done : List Nat), (ordF g f k done).length ≤ done.length + k := by
  intro k
  induction k with
  | zero => intro done; exact Nat.le_refl _
  | succ k ih =>
    intro done
    unfold ordF
    cases e : nextF g f done with
    | none => show done.length ≤ _; omega
    | some b => have := ih (done ++ [b]); simp at this; show (ordF g f k (done ++ [b])).length ≤ _; omega
theorem len_le : ∀ (l m : List Nat), l.Nodup → (∀ x ∈ l, x ∈ m) → l.length ≤ m.length
  | [], _, _, _ => Nat.zero_le _
  | a :: r, m, hn, hs => by
    have ha := hs a (by simp)
    have hn' := List.nodup_cons.1 hn
    have := len_le r (m.erase a) hn'.2 fun x hx => (List.mem_erase_of_ne (fun e => by subst e; exact hn'.1 hx)).2 (hs x (List.mem_cons_of_mem _ hx))
    rw [List.length_erase_of_mem ha] at this
    have : 0 < m.length := List.length_pos_of_mem ha
    simp only [List.length_cons]; omega
theorem all_in {l m : List Nat} (hn : l.Nodup) (hs : ∀ x ∈ l, x ∈ m) (hl : m.length ≤ l.length) : ∀ x ∈ m, x ∈ l := by
  intro x hx
  apply Classical.byContradiction
  intro hx'
  have := len_le l (m.erase x) hn fun y hy => (List.mem_erase_of_ne (fun e => by subst e; exact hx' hy)).2 (hs y hy)
  rw [List.length_erase_of_mem hx] at this
  have : 0 < m.length := List.length_pos_of_mem hx
  omega
theorem reN_nodup (f : Int) : (reN g f).Nodup := List.Pairwise.filter _ List.nodup_range
theorem Good.len {f : Int} {done : List Nat} (h : Good g f done) : done.length ≤ cntR g f := len_le _ _ h.nd fun x hx => mem_reN.2 (h.re x hx)
theorem Good.full {f : Int} {done : List Nat} (h : Good g f done) (hl : done.length = cntR g f) {x : Nat} (hx : ReI g f x) : x ∈ done :=
  all_in h.nd (fun x hx => mem_reN.2 (h.re x hx)) (by show cntR g f ≤ _; omega) x (mem_reN.2 hx)
theorem Good.all {f : Int} {done : List Nat} (h : ∀ x, ReI g f x → x ∈ done) : cntR g f ≤ done.length := len_le _ _ (reN_nodup f) fun x hx => h x (mem_reN.1 hx)
theorem ordL_good (f : Int) : Good g f (ordL g f) := ordF_good _ _ (Good.nil f)
/-- With more rounds than there are nodes nothing more comes. -/
theorem ordF_full {f : Int} {done : List Nat} (h : Good g f done) (hl : done.length = cntR g f) (k : Nat) : ordF g f k done = done := by
  cases k with
  | zero => rfl
  | succ k =>
    unfold ordF
    cases e : nextF g f done with
    | none => rfl
    | some b => exact absurd (h.full hl (nextF_some e).1) (nextF_some e).2.1

/-- It is complete just if there is a rank that edges forward raise. -/
def Ranked (g : Gr) (f : Int) : Prop := ∃ r : Nat → Nat, ∀ a b, fwd g f.toNat a b → r a < r b
theorem free_of {f : Int} {done : List Nat} {r : Nat → Nat} (hf : 0 ≤ f) (hr : ∀ a b, fwd g f.toNat a b → r a < r b) : ∀ (n x : Nat), r x ≤ n → ReI g f x → x ∉ done → ∃ y, free g f done y := by
  intro n
  induction n with
  | zero =>
    intro x hn hx hd
    exact ⟨x, hx, hd, fun a ha => by have := hr a x ha; omega⟩
  | succ n ih =>
    intro x hn hx hd
    by_cases h : ∀ a, fwd g f.toNat a x → a ∈ done
    · exact ⟨x, hx, hd, h⟩
    · obtain ⟨a, ha⟩ := Classical.not_forall.1 h
      obtain ⟨ha, hd'⟩ := Classical.not_imp.1 ha
      exact ih a (by have := hr a x ha; omega) ⟨hf, ha.1⟩ hd'
theorem ordF_ranked {f : Int} (h : Ranked g f) : ∀ (k : Nat) (done : List Nat), Good g f done → done.length + k = cntR g f → (ordF g f k done).length = cntR g f := by
  obtain ⟨r, hr⟩ := h
  intro k
  induction k with
  | zero => intro done _ hl; exact hl
  | succ k ih =>
    intro done hg hl
    have : ∃ x, ReI g f x ∧ x ∉ done := by
      apply Classical.byContradiction
      intro no
      have := Good.all (g := g) (f := f) (done := done) fun x hx => Classical.byContradiction fun k => no ⟨x, hx, k⟩
      omega
    obtain ⟨x, hx, hd⟩ := this
    obtain ⟨y, hy⟩ := free_of hx.1 hr (r x) x (Nat.le_refl _) hx hd
    unfold ordF
    cases e : nextF g f done with
    | none => exact absurd hy (nextF_none e y)
    | some b => exact ih _ (hg.snoc (nextF_some e)) (by simp; omega)
theorem idxOf_at {l : List Nat} (hn : l.Nodup) {j : Nat} (hj : j < l.length) : l.idxOf l[j] = j := by
  have hi := List.idxOf_lt_length_of_mem (List.getElem_mem hj)
  have he : l[l.idxOf l[j]] = l[j] := List.getElem_idxOf hi
  exact (List.getElem_inj (h₀ := hi) (h₁ := hj) hn).1 he
theorem red_rank {f : Int} (hf : 0 ≤ f) (h : redB g f = true) {a b : Nat} (hab : fwd g f.toNat a b) : (ordL g f).idxOf a < (ordL g f).idxOf b := by
  have h' := of_decide_eq_true h
  have hg := ordL_good (g := g) f
  have hb := hg.full h' ⟨hf, fwd_re hab⟩
  have hi := List.idxOf_lt_length_of_mem hb
  have he : (ordL g f)[(ordL g f).idxOf b] = b := List.getElem_idxOf hi
  obtain ⟨j, hj, e⟩ := hg.pre _ hi a (by rw [he]; exact hab)
  have hj' : j < (ordL g f).length := Nat.lt_trans hj hi
  have : (ordL g f).idxOf a = j := by
    rw [← e]; exact idxOf_at hg.nd hj'
  omega
theorem red_ranked {f : Int} (hf : 0 ≤ f) : redB g f = true ↔ Ranked g f :=
  ⟨fun h => ⟨fun x => (ordL g f).idxOf x, fun _ _ hab => red_rank hf h hab⟩, fun h => decide_eq_true (ordF_ranked h _ _ (Good.nil f) (by simp))⟩
/-- Each node but from is led to by an edge forward. -/
theorem entered {f b : Nat} (h : Re g f b) (hb : f ≠ b) : ∃ a, fwd g f a b := by
  have : ∀ y, Re g f y → Av g f b y ∨ ∃ a, Av g f b a ∧ edge g a b := by
    intro y hy
    induction hy with
    | start k _ => exact .inl (.start k hb)
    | @step c d _ k _ ih =>
      rcases ih with ih | ih
      · by_cases e : d = b
        · subst e; exact .inr ⟨c, ih, k⟩
        · exact .inl (.step ih k e)
      · exact .inr ih
  rcases this b h with k | ⟨a, k1, k2⟩
  · exact absurd rfl k.ok
  · refine ⟨a, k1.re, k2, ?_⟩
    rintro (e | e)
    · subst e; exact k1.ok rfl
    · exact e.2.2 k1
theorem no_fwd_start {f a : Nat} : ¬ fwd g f a f := by
  rintro ⟨h1, _, h3⟩
  by_cases e : f = a
  · exact h3 (.inl e)
  · exact h3 (.inr (start_sdom h1 e))
theorem free_first {f : Int} (hf : 0 ≤ f) {b : Nat} : free g f [] b ↔ b = f.toNat ∧ f.toNat < g.length := by
  constructor
  · rintro ⟨h1, _, h3⟩
    by_cases e : f.toNat = b
    · subst e; exact ⟨rfl, h1.2.lt⟩
    · obtain ⟨a, ha⟩ := entered h1.2 e
      exact absurd (h3 a ha) (by simp)
  · rintro ⟨rfl, h⟩
    exact ⟨⟨hf, .start h not_false⟩, by simp, fun a ha => absurd ha no_fwd_start⟩
theorem ordF_pre {f : Int} : ∀ (k : Nat) (done : List Nat), ∃ l, ordF g f k done = done ++ l := by
  intro k
  induction k with
  | zero => intro done; exact ⟨[], (List.append_nil _).symm⟩
  | succ k ih =>
    intro done
    unfold ordF
    cases e : nextF g f done with
    | none => exact ⟨[], (List.append_nil _).symm⟩
    | some b =>
      obtain ⟨l, h⟩ := ih (done ++ [b])
      exact ⟨b :: l, by show ordF g f k (done ++ [b]) = _; rw [h, List.append_assoc]; rfl⟩
theorem ordL_first {f : Int} (hf : 0 ≤ f) (h : f.toNat < g.length) : ∃ l, ordL g f = f.toNat :: l := by
  have hc : 0 < cntR g f := List.length_pos_of_mem (mem_reN.2 ⟨hf, .start h not_false⟩)
  unfold ordL
  obtain ⟨k, hk⟩ : ∃ k, cntR g f = k + 1 := ⟨cntR g f - 1, by omega⟩
  rw [hk]
  unfold ordF
  cases e : nextF g f [] with
  | none => exact absurd ((free_first hf).2 ⟨rfl, h⟩) (nextF_none e _)
  | some b =>
    have := ((free_first hf).1 (nextF_some e)).1
    subst this
    obtain ⟨l, h⟩ := ordF_pre (g := g) (f := f) k ([] ++ [f.toNat])
    exact ⟨l, h⟩
/-- A reached edge that does not lead on in the order leads to a head. -/
theorem behind_head {f : Int} (hf : 0 ≤ f) (h : redB g f = true) {a b : Nat} (ha : Re g f.toNat a) (he : edge g a b) (hb : (ordL g f).idxOf b ≤ (ordL g f).idxOf a) : IsHead g f b := by
  apply Classical.byContradiction
  intro no
  have := red_rank hf h (a := a) (b := b) ⟨ha, he, fun k => no ⟨hf, a, ha, he, k⟩⟩
  omega
end Go.Proofs.YtpkebokfbigggaaDoor.Shp
