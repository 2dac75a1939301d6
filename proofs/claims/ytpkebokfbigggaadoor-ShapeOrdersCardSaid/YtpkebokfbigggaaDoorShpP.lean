/-
  Plain facts of graphs of nodes 0 .. n-1 (stage 12): what is reached without going by some nodes (RW), what dominates what (SDom), the nearest that does (IsIdom). No program is named here.
-/
import Derived.Lib.Hide
namespace Go.Proofs.YtpkebokfbigggaaDoor.Shp
open Classical

abbrev Gr := List (List Int)
def row (g : Gr) (a : Nat) : List Int := g.getD a []
def edge (g : Gr) (a b : Nat) : Prop := a < g.length ∧ b < g.length ∧ (b : Int) ∈ row g a
/-- Reached from f, by no node of 'no'. -/
inductive RW (g : Gr) (f : Nat) (no : Nat → Prop) : Nat → Prop
  | start : f < g.length → ¬ no f → RW g f no f
  | step {a b : Nat} : RW g f no a → edge g a b → ¬ no b → RW g f no b
abbrev Re (g : Gr) (f : Nat) : Nat → Prop := RW g f fun _ => False
abbrev Av (g : Gr) (f d : Nat) : Nat → Prop := RW g f (· = d)
variable {g : Gr} {f : Nat}
theorem RW.lt {no : Nat → Prop} {x : Nat} (h : RW g f no x) : x < g.length := by
  cases h with
  | start h _ => exact h
  | step _ h _ => exact h.2.1
theorem RW.ok {no : Nat → Prop} {x : Nat} (h : RW g f no x) : ¬ no x := by
  cases h with
  | start _ h => exact h
  | step _ _ h => exact h
theorem RW.mono {no no' : Nat → Prop} (hn : ∀ x, no' x → no x) {x : Nat} (h : RW g f no x) : RW g f no' x := by
  induction h with
  | start h1 h2 => exact .start h1 fun k => h2 (hn _ k)
  | step _ h1 h2 ih => exact .step ih h1 fun k => h2 (hn _ k)
theorem Av.re {d x : Nat} (h : Av g f d x) : Re g f x := RW.mono (fun _ k => k.elim) h
/-- d is passed by all ways to x, and is not x. -/
def SDom (g : Gr) (f d x : Nat) : Prop := d ≠ x ∧ Re g f x ∧ ¬ Av g f d x
def Dom (g : Gr) (f d x : Nat) : Prop := d = x ∨ SDom g f d x

theorem start_sdom {x : Nat} (h : Re g f x) (hx : f ≠ x) : SDom g f f x := by
  refine ⟨hx, h, fun k => ?_⟩
  have : ∀ y, Av g f f y → False := by
    intro y hy
    induction hy with
    | start _ h => exact h rfl
    | step _ _ _ ih => exact ih
  exact this x k
theorem no_sdom_start {d : Nat} : ¬ SDom g f d f := fun ⟨h1, h2, h3⟩ => h3 (.start h2.lt fun e => h1 e.symm)
theorem SDom.lt {d x : Nat} (h : SDom g f d x) : Re g f d := by
  obtain ⟨h1, h2, h3⟩ := h
  have : ∀ y, Re g f y → Av g f d y ∨ Re g f d := by
    intro y hy
    induction hy with
    | start k _ =>
      by_cases e : f = d
      · subst e; exact .inr (.start k not_false)
      · exact .inl (.start k e)
    | @step a b ha k _ ih =>
      rcases ih with ih | ih
      · by_cases e : b = d
        · subst e; exact .inr (.step ha k not_false)
        · exact .inl (.step ih k e)
      · exact .inr ih
  rcases this x h2 with k | k
  · exact absurd k h3
  · exact k
theorem SDom.asymm {a b : Nat} (h : SDom g f a b) : ¬ SDom g f b a := by
  rintro ⟨k1, k2, k3⟩
  obtain ⟨h1, h2, h3⟩ := h
  have : ∀ y, Re g f y → RW g f (fun z => z = a ∨ z = b) y ∨ Av g f b a ∨ Av g f a b := by
    intro y hy
    induction hy with
    | start k _ =>
      by_cases e : f = a
      · subst e; exact .inr (.inl (.start k k1.symm))
      by_cases e' : f = b
      · subst e'; exact .inr (.inr (.start k k1))
      · exact .inl (.start k (by rintro (h | h); exact e h; exact e' h))
    | @step c d _ k _ ih =>
      rcases ih with ih | ih
      · by_cases e : d = a
        · subst e; exact .inr (.inl (.step (ih.mono fun _ h => .inr h) k k1.symm))
        by_cases e' : d = b
        · subst e'; exact .inr (.inr (.step (ih.mono fun _ h => .inl h) k k1))
        · exact .inl (.step ih k (by rintro (h | h); exact e h; exact e' h))
      · exact .inr ih
  rcases this b h2 with k | k | k
  · exact k.ok (.inr rfl)
  · exact k3 k
  · exact h3 k
theorem SDom.trans {a b c : Nat} (h : SDom g f a b) (k : SDom g f b c) : SDom g f a c := by
  have hac : a ≠ c := fun e => by subst e; exact h.asymm k
  refine ⟨hac, k.2.1, fun hp => ?_⟩
  have : ∀ y, Av g f a y → Av g f b y ∨ Av g f a b := by
    intro y hy
    induction hy with
    | start q1 q2 =>
      by_cases e : f = b
      · subst e; exact .inr (.start q1 q2)
      · exact .inl (.start q1 e)
    | @step c d hc q1 q2 ih =>
      rcases ih with ih | ih
      · by_cases e : d = b
        · subst e; exact .inr (.step hc q1 q2)
        · exact .inl (.step ih q1 e)
      · exact .inr ih
  rcases this c hp with q | q
  · exact k.2.2 q
  · exact h.2.2 q
theorem SDom.chain {a b c : Nat} (h : SDom g f a c) (k : SDom g f b c) (hn : a ≠ b) : SDom g f a b ∨ SDom g f b a := by
  apply Classical.byContradiction
  intro no
  have ha : Av g f b a := Classical.byContradiction fun q => no (.inr ⟨hn.symm, h.lt, q⟩)
  have hb : Av g f a b := Classical.byContradiction fun q => no (.inl ⟨hn, k.lt, q⟩)
  have : ∀ y, Re g f y → Av g f a y ∨ Av g f b y := by
    intro y hy
    induction hy with
    | start q _ =>
      by_cases e : f = a
      · subst e; exact .inr (.start q hn)
      · exact .inl (.start q e)
    | @step c d _ q _ ih =>
      rcases ih with ih | ih
      · by_cases e : d = a
        · subst e; exact .inr ha
        · exact .inl (.step ih q e)
      · by_cases e : d = b
        · subst e; exact .inl hb
        · exact .inr (.step ih q e)
  rcases this c h.2.1 with q | q
  · exact h.2.2 q
  · exact k.2.2 q

/-! How many dominate a node. -/
noncomputable def sdL (g : Gr) (f x : Nat) : List Nat := (List.range g.length).filter fun d => decide (SDom g f d x)
noncomputable def cnt (g : Gr) (f x : Nat) : Nat := (sdL g f x).length
theorem mem_sdL {d x : Nat} : d ∈ sdL g f x ↔ SDom g f d x := by
  unfold sdL
  rw [List.mem_filter, List.mem_range, decide_eq_true_iff]
  exact ⟨fun h => h.2, fun h => ⟨h.lt.lt, h⟩⟩
theorem filter_lt {α : Type} (l : List α) (p q : α → Bool) (h : ∀ x ∈ l, p x = true → q x = true) (x : α) (hx : x ∈ l) (h1 : q x = true) (h2 : p x = false) : (l.filter p).length < (l.filter q).length := by
  induction l with
  | nil => cases hx
  | cons a r ih =>
    have mono : (r.filter p).length ≤ (r.filter q).length := by
      have : ∀ r : List α, (∀ x ∈ r, p x = true → q x = true) → (r.filter p).length ≤ (r.filter q).length := by
        intro r hr
        induction r with
        | nil => simp
        | cons b s ihs =>
          have i := ihs fun x hx => hr x (List.mem_cons_of_mem _ hx)
          have hb := hr b (by simp)
          cases e : p b <;> cases e' : q b <;> simp [List.filter_cons, e, e'] <;> first | omega | (rw [e, e'] at hb; simp at hb)
      exact this r fun x hx => h x (List.mem_cons_of_mem _ hx)
    rcases List.mem_cons.1 hx with e | hx'
    · subst e
      simp [List.filter_cons, h1, h2]; omega
    · have i := ih (fun x hx => h x (List.mem_cons_of_mem _ hx)) hx'
      have ha := h a (by simp)
      cases e : p a <;> cases e' : q a <;> simp [List.filter_cons, e, e'] <;> first | omega | (rw [e, e'] at ha; simp at ha)
theorem SDom.cnt_lt {a b : Nat} (h : SDom g f a b) : cnt g f a < cnt g f b := by
  unfold cnt sdL
  refine filter_lt _ _ _ (fun x _ hx => ?_) a (List.mem_range.2 h.lt.lt) (decide_eq_true h) (decide_eq_false fun k => k.1 rfl)
  exact decide_eq_true ((of_decide_eq_true hx : SDom g f x a).trans h)
theorem cnt_le (x : Nat) : cnt g f x ≤ g.length := by
  unfold cnt sdL
  exact Nat.le_trans (List.length_filter_le _ _) (by simp)

/-- The last one that dominates x. -/
def IsIdom (g : Gr) (f a x : Nat) : Prop := SDom g f a x ∧ ∀ c, SDom g f c x → c = a ∨ SDom g f c a
theorem IsIdom.unique {a b x : Nat} (h : IsIdom g f a x) (k : IsIdom g f b x) : a = b := by
  rcases h.2 b k.1 with e | e
  · exact e.symm
  · rcases k.2 a h.1 with e' | e'
    · exact e'
    · exact absurd e' e.asymm
theorem idom_max {a x : Nat} (h : SDom g f a x) (hm : ∀ c, SDom g f c x → cnt g f c ≤ cnt g f a) : IsIdom g f a x := by
  refine ⟨h, fun c hc => ?_⟩
  by_cases e : c = a
  · exact .inl e
  · rcases hc.chain h e with k | k
    · exact .inr k
    · have := k.cnt_lt
      have := hm c hc
      omega
theorem max_mem (l : List Nat) (F : Nat → Nat) (h : l ≠ []) : ∃ a ∈ l, ∀ c ∈ l, F c ≤ F a := by
  induction l with
  | nil => exact absurd rfl h
  | cons x r ih =>
    by_cases hr : r = []
    · subst hr
      exact ⟨x, by simp, by simp⟩
    · obtain ⟨a, ha, hm⟩ := ih hr
      by_cases e : F a ≤ F x
      · refine ⟨x, by simp, fun c hc => ?_⟩
        rcases List.mem_cons.1 hc with rfl | hc
        · exact Nat.le_refl _
        · exact Nat.le_trans (hm c hc) e
      · refine ⟨a, by simp [ha], fun c hc => ?_⟩
        rcases List.mem_cons.1 hc with rfl | hc
        · omega
        · exact hm c hc
theorem idom_ex {x : Nat} (h : Re g f x) (hx : f ≠ x) : ∃ a, IsIdom g f a x := by
  have hne : sdL g f x ≠ [] := fun e => by
    have := mem_sdL.2 (start_sdom h hx)
    rw [e] at this; cases this
  obtain ⟨a, ha, hm⟩ := max_mem _ (cnt g f) hne
  exact ⟨a, idom_max (mem_sdL.1 ha) fun c hc => hm c (mem_sdL.2 hc)⟩

/-! The answers: of a from that is any number. -/
/-- Is from a node, and x reached? -/
def ReI (g : Gr) (f : Int) (x : Nat) : Prop := 0 ≤ f ∧ Re g f.toNat x
noncomputable def reachL (g : Gr) (f : Int) : List Bool := (List.range g.length).map fun x => decide (ReI g f x)
noncomputable def avoidL (g : Gr) (f d : Nat) : List Bool := (List.range g.length).map fun x => decide (Av g f d x)
noncomputable def idomV (g : Gr) (f : Int) (x : Nat) : Int := if h : 0 ≤ f ∧ ∃ a, IsIdom g f.toNat a x then (Classical.choose h.2 : Nat) else -1
noncomputable def idomL (g : Gr) (f : Int) : List Int := (List.range g.length).map (idomV g f)
theorem idomV_yes {a x : Nat} {f : Int} (hf : 0 ≤ f) (h : IsIdom g f.toNat a x) : idomV g f x = a := by
  have hh : 0 ≤ f ∧ ∃ a, IsIdom g f.toNat a x := ⟨hf, a, h⟩
  unfold idomV
  rw [dif_pos hh, (Classical.choose_spec hh.2).unique h]
theorem idomV_no {x : Nat} {f : Int} (h : ¬ (0 ≤ f ∧ ∃ a, IsIdom g f.toNat a x)) : idomV g f x = -1 := by
  unfold idomV; rw [dif_neg h]
theorem reachL_len (f : Int) : (reachL g f).length = g.length := by simp [reachL]
theorem avoidL_len (f d : Nat) : (avoidL g f d).length = g.length := by simp [avoidL]
theorem idomL_len (f : Int) : (idomL g f).length = g.length := by simp [idomL]
theorem reachL_at {f : Int} {x : Nat} (h : x < (reachL g f).length) : (reachL g f)[x] = decide (ReI g f x) := by simp [reachL]
theorem avoidL_at {f d x : Nat} (h : x < (avoidL g f d).length) : (avoidL g f d)[x] = decide (Av g f d x) := by simp [avoidL]
theorem idomL_at {f : Int} {x : Nat} (h : x < (idomL g f).length) : (idomL g f)[x] = idomV g f x := by simp [idomL]

/-- Is a on the row b, d of b, and so on? -/
def domF (d : List Int) (a : Int) : Nat → Int → Bool
  | 0, _ => false
  | k + 1, b => if b < 0 ∨ (d.length : Int) ≤ b then false else if a = b then true else domF d a k (d.getD b.toNat 0)
def domB (d : List Int) (a b : Int) : Bool := domF d a (d.length + 1) b
theorem domF_neg (d : List Int) (a : Int) (k : Nat) : domF d a k (-1) = false := by
  cases k with
  | zero => rfl
  | succ k => unfold domF; rw [if_pos (by omega)]
theorem domF_idom {f : Int} (hf : 0 ≤ f) (a : Nat) : ∀ (k x : Nat), Re g f.toNat x → cnt g f.toNat x < k → (domF (idomL g f) a k x = true ↔ Dom g f.toNat a x) := by
  intro k
  induction k with
  | zero => intro x _ h; omega
  | succ k ih =>
    intro x hx hc
    have hl := hx.lt
    unfold domF
    rw [idomL_len, if_neg (by omega)]
    by_cases e : (a : Int) = x
    · rw [if_pos e]
      exact ⟨fun _ => .inl (by omega), fun _ => rfl⟩
    rw [if_neg e]
    have hax : a ≠ x := by omega
    have e1 : (idomL g f).getD (x : Int).toNat 0 = idomV g f x := by
      rw [Int.toNat_natCast, List.getD_eq_getElem?_getD, List.getElem?_eq_getElem (by rw [idomL_len]; exact hl)]
      exact idomL_at _
    rw [e1]
    by_cases hfx : f.toNat = x
    · have : idomV g f x = -1 := idomV_no fun ⟨_, p, hp⟩ => by
        have := hp.1; rw [← hfx] at this; exact no_sdom_start this
      rw [this, domF_neg]
      refine ⟨fun h => by simp at h, fun h => ?_⟩
      rcases h with h | h
      · exact absurd h hax
      · rw [← hfx] at h; exact absurd h no_sdom_start
    · obtain ⟨p, hp⟩ := idom_ex hx hfx
      rw [idomV_yes hf hp]
      have hlt := hp.1.cnt_lt
      rw [ih p hp.1.lt (by omega)]
      constructor
      · rintro (h | h)
        · subst h; exact .inr hp.1
        · exact .inr (h.trans hp.1)
      · rintro (h | h)
        · exact absurd h hax
        · rcases hp.2 a h with h | h
          · exact .inl h
          · exact .inr h
theorem cnt_lt_len {x : Nat} (h : Re g f x) : cnt g f x < g.length + 1 := by have := cnt_le (g := g) (f := f) x; omega
theorem domB_idom {f : Int} (hf : 0 ≤ f) {a x : Nat} (h : Re g f.toNat x) : domB (idomL g f) a x = decide (Dom g f.toNat a x) := by
  unfold domB
  rw [idomL_len, Bool.eq_iff_iff, decide_eq_true_iff]
  exact domF_idom hf a _ x h (cnt_lt_len h)
end Go.Proofs.YtpkebokfbigggaaDoor.Shp
