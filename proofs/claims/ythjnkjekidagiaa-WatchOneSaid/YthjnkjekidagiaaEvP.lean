/-
  What eval.Value tells, as a plain function on the list (valF: each node by its kids), and the state of a walk that goes kids first (Ok: what is entered is on the stack or is told right). No program's step is named here.
-/
import Derived.Test.YthjnkjekidagiaaEvC
namespace Go.Proofs.Ythjnkjekidagiaa.Evl
open Typ (wrapF)
open Prs (Ex)

def Env.past (E : Env) : Env := ⟨E.old, E.olds, E.old, E.olds, E.res, E.t⟩
def envT (E : Env) (t : Nat) : Env := if t = 0 then E else E.past
def closeA (n : Ex) (E : Env) (l r : Ans) : Ans :=
  if l.ub ≠ 0 then ⟨0, (nodeA n E l r).t, l.ub, l.at_⟩ else if r.ub ≠ 0 then ⟨0, (nodeA n E l r).t, r.ub, r.at_⟩ else nodeA n E l r
def twoK (k : Nat) : Prop := 8 ≤ k ∧ k ≤ 17
def oneK (k : Nat) : Prop := k = 3 ∨ k = 6 ∨ k = 7 ∨ k = 18
instance (k : Nat) : Decidable (twoK k) := by unfold twoK; infer_instance
instance (k : Nat) : Decidable (oneK k) := by unfold oneK; infer_instance
/-- A node's kids: their places and times. -/
def kidA (n : Ex) (t : Nat) : Int × Nat := if n.kind = 4 then (n.a, 1) else if twoK n.kind ∨ oneK n.kind then (n.a, t) else (-1, t)
def kidB (n : Ex) (t : Nat) : Int × Nat := if twoK n.kind then (n.b, t) else (-1, t)
def valF (l : List Ex) (E : Env) : Nat → Int × Nat → Ans
  | 0, _ => Ans.none
  | f + 1, s => if 0 ≤ s.1 then match l[s.1.toNat]? with
    | some x => closeA x (envT E s.2) (valF l E f (kidA x s.2)) (valF l E f (kidB x s.2))
    | none => Ans.none
    else Ans.none
/-- Kids stand ahead of their nodes. -/
def Down (l : List Ex) : Prop := ∀ i (h : i < l.length), l[i].a < i ∧ l[i].b < i
theorem kidA_lt {l : List Ex} (h : Down l) {i : Nat} (hi : i < l.length) (t : Nat) : (kidA l[i] t).1 < i := by
  have := (h i hi).1
  unfold kidA
  split
  · exact this
  · split
    · exact this
    · show (-1 : Int) < i; omega
theorem kidB_lt {l : List Ex} (h : Down l) {i : Nat} (hi : i < l.length) (t : Nat) : (kidB l[i] t).1 < i := by
  have := (h i hi).2
  unfold kidB
  split
  · exact this
  · show (-1 : Int) < i; omega
theorem val_out {l : List Ex} {E : Env} {f : Nat} {s : Int × Nat} (h : s.1 < 0 ∨ (l.length : Int) ≤ s.1) : valF l E f s = Ans.none := by
  cases f with
  | zero => rfl
  | succ f =>
    unfold valF
    split
    · rename_i h0
      rw [List.getElem?_eq_none (by omega)]
    · rfl
theorem val_fuel {l : List Ex} {E : Env} (h : Down l) : ∀ (f g : Nat) (s : Int × Nat), s.1 < f → s.1 < g → valF l E f s = valF l E g s := by
  intro f
  induction f with
  | zero => intro g s hf hg; rw [val_out (.inl (by omega)), val_out (.inl (by omega))]
  | succ f ih =>
    intro g s hf hg
    by_cases h0 : s.1 < 0
    · rw [val_out (.inl h0), val_out (.inl h0)]
    by_cases h1 : (l.length : Int) ≤ s.1
    · rw [val_out (.inr h1), val_out (.inr h1)]
    cases g with
    | zero => omega
    | succ g =>
      have hi : s.1.toNat < l.length := by omega
      unfold valF
      rw [if_pos (by omega), if_pos (by omega), List.getElem?_eq_getElem hi]
      have ha := kidA_lt h hi s.2
      have hb := kidB_lt h hi s.2
      show closeA _ _ _ _ = closeA _ _ _ _
      rw [ih g _ (by omega) (by omega), ih g (kidB _ _) (by omega) (by omega)]
theorem val_succ (l : List Ex) (E : Env) (f : Nat) (s : Int × Nat) : valF l E (f + 1) s = if 0 ≤ s.1 then match l[s.1.toNat]? with
    | some x => closeA x (envT E s.2) (valF l E f (kidA x s.2)) (valF l E f (kidB x s.2))
    | none => Ans.none
    else Ans.none := rfl
/-- What a spot has. -/
def valA (l : List Ex) (E : Env) (s : Int × Nat) : Ans := valF l E (s.1.toNat + 1) s
theorem valA_out {l : List Ex} {E : Env} {s : Int × Nat} (h : s.1 < 0 ∨ (l.length : Int) ≤ s.1) : valA l E s = Ans.none := val_out h
theorem valA_at {l : List Ex} {E : Env} (h : Down l) {i t : Nat} (hi : i < l.length) : valA l E ((i : Int), t) = closeA l[i] (envT E t) (valA l E (kidA l[i] t)) (valA l E (kidB l[i] t)) := by
  have ha := kidA_lt h hi t
  have hb := kidB_lt h hi t
  unfold valA
  rw [show valF l E (((i : Int), t).1.toNat + 1) ((i : Int), t) = closeA l[i] (envT E t) (valF l E ((i : Int)).toNat (kidA l[i] t)) (valF l E ((i : Int)).toNat (kidB l[i] t)) by
    rw [val_succ, if_pos (by show (0 : Int) ≤ i; omega)]
    simp only [Int.toNat_natCast, List.getElem?_eq_getElem hi]]
  have fuel : ∀ s : Int × Nat, s.1 < i → valF l E ((i : Int)).toNat s = valF l E (s.1.toNat + 1) s := by
    intro s hs
    by_cases h0 : s.1 < 0
    · rw [val_out (.inl h0), val_out (.inl h0)]
    · exact val_fuel h _ _ _ (by simp; omega) (by omega)
  rw [fuel _ ha, fuel _ hb]

/-- Is a spot marked, what is noted of it. -/
def markF (e : Nat → List Bool) (s : Nat × Nat) : Bool := ((e s.2)[s.1]?).getD true
def noteF (a : Nat → List Ans) (s : Nat × Nat) : Ans := ((a s.2)[s.1]?).getD Ans.none
def updF {α : Type} (f : Nat → List α) (s : Nat × Nat) (x : α) : Nat → List α := fun t => if t = s.2 then (f t).set s.1 x else f t
theorem mark_upd {e : Nat → List Bool} {s x : Nat × Nat} {b : Bool} (hs : s.1 < (e s.2).length) : markF (updF e s b) x = if x = s then b else markF e x := by
  unfold markF updF
  by_cases h2 : x.2 = s.2
  · rw [if_pos h2]
    by_cases h1 : x.1 = s.1
    · rw [if_pos (Prod.ext h1 h2), h1, h2]; simp [hs]
    · rw [if_neg (fun e => h1 (by rw [e])), h2, List.getElem?_set_ne (by omega)]
  · rw [if_neg h2, if_neg (fun e => h2 (by rw [e]))]
theorem note_upd {a : Nat → List Ans} {s x : Nat × Nat} {b : Ans} (hs : s.1 < (a s.2).length) : noteF (updF a s b) x = if x = s then b else noteF a x := by
  unfold noteF updF
  by_cases h2 : x.2 = s.2
  · rw [if_pos h2]
    by_cases h1 : x.1 = s.1
    · rw [if_pos (Prod.ext h1 h2), h1, h2]; simp [hs]
    · rw [if_neg (fun e => h1 (by rw [e])), h2, List.getElem?_set_ne (by omega)]
  · rw [if_neg h2, if_neg (fun e => h2 (by rw [e]))]
theorem upd_len {α : Type} {f : Nat → List α} {s : Nat × Nat} {x : α} (t : Nat) : (updF f s x t).length = (f t).length := by
  unfold updF; split <;> simp
/-- Falling: each stands ahead of the one below it on the stack. -/
def Falls : List (Nat × Nat) → Prop
  | [] => True
  | s :: st => (∀ x ∈ st, s.1 < x.1) ∧ Falls st
structure Ok (l : List Ex) (E : Env) (e : Nat → List Bool) (a : Nat → List Ans) (st : List (Nat × Nat)) : Prop where
  on : ∀ s ∈ st, s.1 < l.length ∧ s.2 < 2 ∧ markF e s = true
  good : ∀ s, s.1 < l.length → s.2 < 2 → markF e s = true → s ∈ st ∨ noteF a s = valA l E ((s.1 : Int), s.2)
  falls : Falls st
  el : ∀ t, t < 2 → (e t).length = l.length
  al : ∀ t, t < 2 → (a t).length = l.length
def toldA (l : List Ex) (a : Nat → List Ans) (s : Int × Nat) : Ans := if 0 ≤ s.1 ∧ s.1 < l.length then noteF a (s.1.toNat, s.2) else Ans.none
/-- Nothing is to be done of a spot: it is not there, or marked. -/
def Past (l : List Ex) (e : Nat → List Bool) (s : Int × Nat) : Prop := s.1 < 0 ∨ (l.length : Int) ≤ s.1 ∨ markF e (s.1.toNat, s.2) = true
theorem kidA_t (n : Ex) {t : Nat} (ht : t < 2) : (kidA n t).2 < 2 := by unfold kidA; split <;> (try split) <;> simp <;> omega
theorem kidB_t (n : Ex) {t : Nat} (ht : t < 2) : (kidB n t).2 < 2 := by unfold kidB; split <;> simp <;> omega
section
variable {l : List Ex} {E : Env} {e : Nat → List Bool} {a : Nat → List Ans} {st : List (Nat × Nat)}
theorem Ok.told {s : Nat × Nat} (h : Ok l E e a (s :: st)) {k : Int × Nat} (hk : k.1 < s.1) (ht : k.2 < 2) (hp : Past l e k) : toldA l a k = valA l E k := by
  unfold toldA
  by_cases h0 : 0 ≤ k.1 ∧ k.1 < l.length
  · rw [if_pos h0]
    have hm : markF e (k.1.toNat, k.2) = true := by
      rcases hp with h | h | h
      · omega
      · omega
      · exact h
    rcases h.good (k.1.toNat, k.2) (by show k.1.toNat < _; omega) ht hm with hin | he
    · exfalso
      rcases List.mem_cons.1 hin with hin | hin
      · have : k.1.toNat = s.1 := by rw [← hin]
        omega
      · have := h.falls.1 _ hin
        simp only at this
        omega
    · rw [he]
      show valA l E ((k.1.toNat : Int), k.2) = _
      rw [show ((k.1.toNat : Int), k.2) = k from Prod.ext (by show ((k.1.toNat : Nat) : Int) = k.1; omega) rfl]
  · rw [if_neg h0, valA_out (by omega)]
theorem Ok.done (h : Ok l E e a []) {k : Int × Nat} (ht : k.2 < 2) (hp : Past l e k) : toldA l a k = valA l E k := by
  unfold toldA
  by_cases h0 : 0 ≤ k.1 ∧ k.1 < l.length
  · rw [if_pos h0]
    have hm : markF e (k.1.toNat, k.2) = true := by
      rcases hp with h | h | h
      · omega
      · omega
      · exact h
    rcases h.good (k.1.toNat, k.2) (by show k.1.toNat < _; omega) ht hm with hin | he
    · cases hin
    · rw [he]
      show valA l E ((k.1.toNat : Int), k.2) = _
      rw [show ((k.1.toNat : Int), k.2) = k from Prod.ext (by show ((k.1.toNat : Nat) : Int) = k.1; omega) rfl]
  · rw [if_neg h0, valA_out (by omega)]
theorem Ok.push (h : Ok l E e a st) {k : Nat × Nat} (h1 : k.1 < l.length) (h2 : k.2 < 2) (hf : ∀ x ∈ st, k.1 < x.1) : Ok l E (updF e k true) (updF a k Ans.none) (k :: st) := by
  have he : k.1 < (e k.2).length := by rw [h.el _ h2]; exact h1
  have ha : k.1 < (a k.2).length := by rw [h.al _ h2]; exact h1
  refine ⟨fun s hs => ?_, fun s s1 s2 hm => ?_, ⟨hf, h.falls⟩, fun t ht => by rw [upd_len]; exact h.el t ht, fun t ht => by rw [upd_len]; exact h.al t ht⟩
  · rw [mark_upd he]
    rcases List.mem_cons.1 hs with rfl | hs
    · exact ⟨h1, h2, by rw [if_pos rfl]⟩
    · obtain ⟨q1, q2, q3⟩ := h.on s hs
      exact ⟨q1, q2, by split <;> first | rfl | exact q3⟩
  · by_cases hsk : s = k
    · subst hsk; exact .inl (by simp)
    · rw [mark_upd he, if_neg hsk] at hm
      rcases h.good s s1 s2 hm with hin | hv
      · exact .inl (by simp [hin])
      · exact .inr (by rw [note_upd ha, if_neg hsk]; exact hv)
theorem Ok.pop {s : Nat × Nat} (h : Ok l E e a (s :: st)) : Ok l E e (updF a s (valA l E ((s.1 : Int), s.2))) st := by
  obtain ⟨q1, q2, q3⟩ := h.on s (by simp)
  have ha : s.1 < (a s.2).length := by rw [h.al _ q2]; exact q1
  refine ⟨fun x hx => h.on x (by simp [hx]), fun x x1 x2 hm => ?_, h.falls.2, h.el, fun t ht => by rw [upd_len]; exact h.al t ht⟩
  rw [note_upd ha]
  by_cases hxs : x = s
  · subst hxs; exact .inr (by rw [if_pos rfl])
  · rw [if_neg hxs]
    rcases h.good x x1 x2 hm with hin | hv
    · rcases List.mem_cons.1 hin with hin | hin
      · exact absurd hin hxs
      · exact .inl hin
    · exact .inr hv
end
theorem count_set {L : List Bool} {i : Nat} (h : L[i]?.getD true = false) : (L.set i true).count false + 1 = L.count false := by
  induction L generalizing i with
  | nil => simp at h
  | cons b L ih =>
    cases i with
    | zero =>
      obtain rfl : b = false := by simpa using h
      simp
    | succ i =>
      have := ih (i := i) (by simpa using h)
      simp only [List.set_cons_succ, List.count_cons]
      omega
/-- How much is left to do. -/
def left (e : Nat → List Bool) (st : List (Nat × Nat)) : Nat := 2 * ((e 0).count false + (e 1).count false) + st.length
theorem left_push {e : Nat → List Bool} {st : List (Nat × Nat)} {k : Nat × Nat} (h2 : k.2 < 2) (hm : markF e k = false) : left (updF e k true) (k :: st) < left e st := by
  have hc := count_set (L := e k.2) (i := k.1) hm
  unfold left updF
  rcases (show k.2 = 0 ∨ k.2 = 1 by omega) with h | h
  · rw [h] at hc; simp only [h, if_true, List.length_cons]; rw [if_neg (by omega)]; omega
  · rw [h] at hc; simp only [h, if_true, List.length_cons]; rw [if_neg (by omega)]; omega
end Go.Proofs.Ythjnkjekidagiaa.Evl
