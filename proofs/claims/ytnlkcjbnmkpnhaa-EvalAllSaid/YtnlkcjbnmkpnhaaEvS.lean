/-
  What eval.Test tells, as a plain function on the list (tstF: each condition by its kids), and the state of a walk that goes kids first (OkJ). No program's step is named here.
-/
import Derived.Test.YtnlkcjbnmkpnhaaEvP
namespace Go.Proofs.Ytnlkcjbnmkpnhaa.Evl
open Typ (wrapF relF)
open Prs (Ex Cn)

/-- A finding. -/
structure Fi where
  is : Bool
  ub : Int
  at_ : Int
deriving DecidableEq
def Fi.none : Fi := ⟨false, 0, 0⟩
def relA (c : Cn) (E : Env) : Fi :=
  let x := valA c.x E ((c.x.length : Int) - 1, 0)
  let y := valA c.y E ((c.y.length : Int) - 1, 0)
  if x.ub ≠ 0 then ⟨false, x.ub, x.at_⟩ else if y.ub ≠ 0 then ⟨false, y.ub, y.at_⟩ else ⟨relF c.rel (wrapF (meetF x y) x.v) (wrapF (meetF x y) y.v), 0, 0⟩
/-- Its first kid leaves it to the second one. -/
def undA (c : Cn) (a : Fi) : Bool := decide (a.ub = 0) && (a.is == decide (c.kind = 3))
def twoC (k : Nat) : Prop := k = 3 ∨ k = 4
instance (k : Nat) : Decidable (twoC k) := by unfold twoC; infer_instance
def clsA (c : Cn) (E : Env) (a b : Fi) : Fi :=
  if c.kind = 1 then relA c E else if twoC c.kind then (if undA c a = true then b else a) else if c.kind = 2 then ⟨decide (a.ub = 0) && !a.is, a.ub, a.at_⟩ else Fi.none
def tstF (l : List Cn) (E : Env) : Nat → Int → Fi
  | 0, _ => Fi.none
  | f + 1, s => if 0 ≤ s then match l[s.toNat]? with
    | some x => clsA x E (if twoC x.kind ∨ x.kind = 2 then tstF l E f x.a else Fi.none) (if twoC x.kind then tstF l E f x.b else Fi.none)
    | none => Fi.none
    else Fi.none
/-- Kids stand ahead of their conditions. -/
def DownC (l : List Cn) : Prop := ∀ i (h : i < l.length), l[i].a < i ∧ l[i].b < i
theorem tst_out {l : List Cn} {E : Env} {f : Nat} {s : Int} (h : s < 0 ∨ (l.length : Int) ≤ s) : tstF l E f s = Fi.none := by
  cases f with
  | zero => rfl
  | succ f =>
    unfold tstF
    split
    · rw [List.getElem?_eq_none (by omega)]
    · rfl
theorem tst_fuel {l : List Cn} {E : Env} (h : DownC l) : ∀ (f g : Nat) (s : Int), s < f → s < g → tstF l E f s = tstF l E g s := by
  intro f
  induction f with
  | zero => intro g s hf hg; rw [tst_out (.inl (by omega)), tst_out (.inl (by omega))]
  | succ f ih =>
    intro g s hf hg
    by_cases h0 : s < 0
    · rw [tst_out (.inl h0), tst_out (.inl h0)]
    by_cases h1 : (l.length : Int) ≤ s
    · rw [tst_out (.inr h1), tst_out (.inr h1)]
    cases g with
    | zero => omega
    | succ g =>
      have hi : s.toNat < l.length := by omega
      unfold tstF
      rw [if_pos (by omega), if_pos (by omega), List.getElem?_eq_getElem hi]
      have ⟨ha, hb⟩ := h s.toNat hi
      simp only
      rw [ih g l[s.toNat].a (by omega) (by omega), ih g l[s.toNat].b (by omega) (by omega)]
/-- What a place has. -/
def tstA (l : List Cn) (E : Env) (s : Int) : Fi := tstF l E (s.toNat + 1) s
theorem tstA_out {l : List Cn} {E : Env} {s : Int} (h : s < 0 ∨ (l.length : Int) ≤ s) : tstA l E s = Fi.none := tst_out h
theorem tstA_at {l : List Cn} {E : Env} (h : DownC l) {i : Nat} (hi : i < l.length) : tstA l E (i : Int) = clsA l[i] E (if twoC l[i].kind ∨ l[i].kind = 2 then tstA l E l[i].a else Fi.none) (if twoC l[i].kind then tstA l E l[i].b else Fi.none) := by
  have ⟨ha, hb⟩ := h i hi
  have fuel : ∀ s : Int, s < i → tstF l E i s = tstF l E (s.toNat + 1) s := by
    intro s hs
    by_cases h0 : s < 0
    · rw [tst_out (.inl h0), tst_out (.inl h0)]
    · exact tst_fuel h _ _ _ (by omega) (by omega)
  unfold tstA
  rw [Int.toNat_natCast]
  conv => lhs; unfold tstF
  rw [if_pos (by omega), Int.toNat_natCast, List.getElem?_eq_getElem hi]
  simp only
  rw [fuel _ ha, fuel _ hb]

/-- Is a place marked, what is noted of it. -/
def mkF (e : List Bool) (s : Nat) : Bool := (e[s]?).getD true
def ntF (a : List Fi) (s : Nat) : Fi := (a[s]?).getD Fi.none
theorem mk_set {e : List Bool} {s x : Nat} {b : Bool} (hs : s < e.length) : mkF (e.set s b) x = if x = s then b else mkF e x := by
  unfold mkF
  by_cases h : x = s
  · subst h; simp [hs]
  · rw [if_neg h, List.getElem?_set_ne (by omega)]
theorem nt_set {a : List Fi} {s x : Nat} {b : Fi} (hs : s < a.length) : ntF (a.set s b) x = if x = s then b else ntF a x := by
  unfold ntF
  by_cases h : x = s
  · subst h; simp [hs]
  · rw [if_neg h, List.getElem?_set_ne (by omega)]
def FallsJ : List Nat → Prop
  | [] => True
  | s :: st => (∀ x ∈ st, s < x) ∧ FallsJ st
structure OkJ (l : List Cn) (E : Env) (e : List Bool) (a : List Fi) (st : List Nat) : Prop where
  on : ∀ s ∈ st, s < l.length ∧ mkF e s = true
  good : ∀ s, s < l.length → mkF e s = true → s ∈ st ∨ ntF a s = tstA l E (s : Int)
  falls : FallsJ st
  el : e.length = l.length
  al : a.length = l.length
def tldA (l : List Cn) (a : List Fi) (s : Int) : Fi := if 0 ≤ s ∧ s < l.length then ntF a s.toNat else Fi.none
/-- Nothing is to be done of a place: it is not there, or marked. -/
def PastJ (l : List Cn) (e : List Bool) (s : Int) : Prop := s < 0 ∨ (l.length : Int) ≤ s ∨ mkF e s.toNat = true
section
variable {l : List Cn} {E : Env} {e : List Bool} {a : List Fi} {st : List Nat}
theorem OkJ.told {s : Nat} (h : OkJ l E e a (s :: st)) {k : Int} (hk : k < s) (hp : PastJ l e k) : tldA l a k = tstA l E k := by
  unfold tldA
  by_cases h0 : 0 ≤ k ∧ k < l.length
  · rw [if_pos h0]
    have hm : mkF e k.toNat = true := by
      rcases hp with h | h | h
      · omega
      · omega
      · exact h
    rcases h.good k.toNat (by omega) hm with hin | he
    · exfalso
      rcases List.mem_cons.1 hin with hin | hin
      · omega
      · have := h.falls.1 _ hin
        omega
    · rw [he, show ((k.toNat : Nat) : Int) = k by omega]
  · rw [if_neg h0, tstA_out (by omega)]
theorem OkJ.done (h : OkJ l E e a []) {k : Int} (hp : PastJ l e k) : tldA l a k = tstA l E k := by
  unfold tldA
  by_cases h0 : 0 ≤ k ∧ k < l.length
  · rw [if_pos h0]
    have hm : mkF e k.toNat = true := by
      rcases hp with h | h | h
      · omega
      · omega
      · exact h
    rcases h.good k.toNat (by omega) hm with hin | he
    · cases hin
    · rw [he, show ((k.toNat : Nat) : Int) = k by omega]
  · rw [if_neg h0, tstA_out (by omega)]
theorem OkJ.push (h : OkJ l E e a st) {k : Nat} (h1 : k < l.length) (hf : ∀ x ∈ st, k < x) : OkJ l E (e.set k true) a (k :: st) := by
  have he : k < e.length := by rw [h.el]; exact h1
  refine ⟨fun s hs => ?_, fun s s1 hm => ?_, ⟨hf, h.falls⟩, by simpa using h.el, h.al⟩
  · rw [mk_set he]
    rcases List.mem_cons.1 hs with rfl | hs
    · exact ⟨h1, by rw [if_pos rfl]⟩
    · obtain ⟨q1, q3⟩ := h.on s hs
      exact ⟨q1, by split <;> first | rfl | exact q3⟩
  · by_cases hsk : s = k
    · subst hsk; exact .inl (by simp)
    · rw [mk_set he, if_neg hsk] at hm
      rcases h.good s s1 hm with hin | hv
      · exact .inl (by simp [hin])
      · exact .inr hv
theorem OkJ.pop {s : Nat} (h : OkJ l E e a (s :: st)) : OkJ l E e (a.set s (tstA l E (s : Int))) st := by
  obtain ⟨q1, q3⟩ := h.on s (by simp)
  have ha : s < a.length := by rw [h.al]; exact q1
  refine ⟨fun x hx => h.on x (by simp [hx]), fun x x1 hm => ?_, h.falls.2, h.el, by simpa using h.al⟩
  rw [nt_set ha]
  by_cases hxs : x = s
  · subst hxs; exact .inr (by rw [if_pos rfl])
  · rw [if_neg hxs]
    rcases h.good x x1 hm with hin | hv
    · rcases List.mem_cons.1 hin with hin | hin
      · exact absurd hin hxs
      · exact .inl hin
    · exact .inr hv
/-- A condition whose kids are past is told by what they have. -/
theorem OkJ.close {s : Nat} (h : OkJ l E e a (s :: st)) (hD : DownC l) (hs : s < l.length) (h1 : (twoC l[s].kind ∨ l[s].kind = 2) → PastJ l e l[s].a) (h2 : twoC l[s].kind → undA l[s] (tldA l a l[s].a) = true → PastJ l e l[s].b) :
    clsA l[s] E (tldA l a l[s].a) (tldA l a l[s].b) = tstA l E (s : Int) := by
  have ⟨ha, hb⟩ := hD s hs
  rw [tstA_at hD hs]
  by_cases ht : twoC l[s].kind
  · have e1 := h.told ha (h1 (.inl ht))
    rw [if_pos (.inl ht), if_pos ht]
    have hk : ¬ l[s].kind = 1 := by unfold twoC at ht; omega
    unfold clsA
    rw [if_neg hk, if_pos ht, if_neg hk, if_pos ht, ← e1]
    split
    · rename_i hu
      exact h.told hb (h2 ht hu)
    · rfl
  · by_cases h2' : l[s].kind = 2
    · have e1 := h.told ha (h1 (.inr h2'))
      rw [if_pos (.inr h2')]
      have hk : ¬ l[s].kind = 1 := by omega
      unfold clsA
      rw [if_neg hk, if_neg ht, if_pos h2', if_neg hk, if_neg ht, if_pos h2', e1]
    · unfold clsA
      rw [if_neg ht, if_neg h2', if_neg ht, if_neg h2']
end
/-- How much is left to do. -/
def leftJ (e : List Bool) (st : List Nat) : Nat := 2 * e.count false + st.length
theorem leftJ_push {e : List Bool} {st : List Nat} {k : Nat} (hm : mkF e k = false) : leftJ (e.set k true) (k :: st) < leftJ e st := by
  have hc := count_set (L := e) (i := k) hm
  unfold leftJ
  simp only [List.length_cons]; omega
end Go.Proofs.Ytnlkcjbnmkpnhaa.Evl
