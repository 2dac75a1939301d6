/-
  Operators in a row (ParseOrder): what the text '1 op 1 op .. == 0' comes to. No program is named here.
-/
import Derived.Test.YtoafcpbpnkfhoaaGreatDoorPrsL
namespace Go.Proofs.YtoafcpbpnkfhoaaGreatDoor.Prs
open Lex (Tok lexF lexTo Lx)

def sg (o : Nat) : List UInt8 := ([[38], [124], [94], [60, 60], [62, 62], [43], [45], [42], [47], [37]] : List (List UInt8)).getD o []
def rk (o : Nat) : Nat := ([0, 0, 0, 1, 1, 2, 2, 3, 3, 3] : List Nat).getD o 0
def kindO (o : Nat) : Nat := ([13, 14, 15, 16, 17, 8, 9, 10, 11, 12] : List Nat).getD o 0
/-- The text behind the first number and a blank. -/
def ordT : List Nat → List UInt8
  | [] => [61, 61, 32, 48]
  | o :: os => sg o ++ 32 :: 49 :: 32 :: ordT os
def ordToks : List Nat → Nat → List Tok
  | [], k => [⟨4, [61, 61], k + 1⟩, ⟨2, [48], k + 4⟩, ⟨0, [], k + 5⟩]
  | o :: os, k => ⟨4, sg o, k + 1⟩ :: ⟨2, [49], k + 1 + (sg o).length + 1⟩ :: ordToks os (k + 1 + (sg o).length + 2)

theorem ten {o : Nat} (h : o < 10) : o = 0 ∨ o = 1 ∨ o = 2 ∨ o = 3 ∨ o = 4 ∨ o = 5 ∨ o = 6 ∨ o = 7 ∨ o = 8 ∨ o = 9 := by omega
theorem lex_sign (o : Nat) (h : o < 10) (f : Nat) (l : List UInt8) (k : Nat) : lexTo (f + 1) (32 :: (sg o ++ 32 :: l)) k = Lx.pre [⟨4, sg o, k + 1⟩] (lexTo f (32 :: l) (k + 1 + (sg o).length)) := by
  rcases ten h with rfl | rfl | rfl | rfl | rfl | rfl | rfl | rfl | rfl | rfl <;> rfl
theorem lex_one (f : Nat) (l : List UInt8) (k : Nat) : lexTo (f + 1) (32 :: 49 :: 32 :: l) k = Lx.pre [⟨2, [49], k + 1⟩] (lexTo f (32 :: l) (k + 2)) := by rfl
theorem lex_end (f : Nat) (k : Nat) : lexTo (f + 3) (32 :: [61, 61, 32, 48]) k = .toks [⟨4, [61, 61], k + 1⟩, ⟨2, [48], k + 4⟩, ⟨0, [], k + 5⟩] := by rfl
theorem lex_ord (os : List Nat) (h : ∀ o ∈ os, o < 10) (f k : Nat) : lexTo (f + 3 + 2 * os.length) (32 :: ordT os) k = .toks (ordToks os k) := by
  induction os generalizing k with
  | nil => exact lex_end f k
  | cons o os ih =>
    have h1 := lex_sign o (h o (by simp)) (f + 3 + 2 * os.length + 1) (49 :: 32 :: ordT os) k
    have h2 := lex_one (f + 3 + 2 * os.length) (ordT os) (k + 1 + (sg o).length)
    rw [show f + 3 + 2 * (o :: os).length = f + 3 + 2 * os.length + 1 + 1 by simp; omega]
    show lexTo _ (32 :: (sg o ++ 32 :: 49 :: 32 :: ordT os)) k = _
    rw [h1, h2, ih (fun o ho => h o (by simp [ho]))]
    simp [Lx.pre, ordToks]
theorem ordT_len (os : List Nat) (h : ∀ o ∈ os, o < 10) : 4 * os.length + 4 ≤ (ordT os).length ∧ (ordT os).length ≤ 5 * os.length + 4 := by
  induction os with
  | nil => simp [ordT]
  | cons o os ih =>
    have h1 := ih (fun o ho => h o (by simp [ho]))
    have h2 : 1 ≤ (sg o).length ∧ (sg o).length ≤ 2 := by rcases ten (h o (by simp)) with rfl | rfl | rfl | rfl | rfl | rfl | rfl | rfl | rfl | rfl <;> decide
    simp only [ordT, List.length_append, List.length_cons]
    omega
theorem lexF_ord (os : List Nat) (h : ∀ o ∈ os, o < 10) (hn : os.length ≤ 20) : lexF (49 :: 32 :: ordT os) = .toks (⟨2, [49], 0⟩ :: ordToks os 1) := by
  have hl := ordT_len os h
  unfold lexF
  rw [if_neg (by simp; omega)]
  obtain ⟨f, hf⟩ : ∃ f, (49 :: 32 :: ordT os).length + 1 = f + 3 + 2 * os.length + 1 := ⟨(ordT os).length - 2 * os.length - 1, by simp; omega⟩
  rw [hf]
  have : lexTo (f + 3 + 2 * os.length + 1) (49 :: 32 :: ordT os) 0 = Lx.pre [⟨2, [49], 0⟩] (lexTo (f + 3 + 2 * os.length) (32 :: ordT os) 1) := by rfl
  rw [this, lex_ord os h]
  rfl

def Ev (P : Nat → Prop) : Prop := ∃ f0, ∀ f, f0 ≤ f → P f
theorem Ev.of (f0 : Nat) {P : Nat → Prop} (h : ∀ f, P (f + f0)) : Ev P := ⟨f0, fun f hf => by have := h (f - f0); rwa [Nat.sub_add_cancel hf] at this⟩
theorem Ev.both {P Q R : Nat → Prop} (h : Ev P) (k : Ev Q) (c : ∀ f, P f → Q f → R f) : Ev R := by
  obtain ⟨a, h⟩ := h
  obtain ⟨b, k⟩ := k
  exact ⟨max a b, fun f hf => c f (h f (by omega)) (k f (by omega))⟩
theorem Ev.mono {P R : Nat → Prop} (h : Ev P) (c : ∀ f, P f → R f) : Ev R := by
  obtain ⟨a, h⟩ := h
  exact ⟨a, fun f hf => c f (h f hf)⟩
theorem Ev.succ {P Q : Nat → Prop} (h : Ev P) (c : ∀ f, P f → Q (f + 1)) : Ev Q := by
  obtain ⟨a, h⟩ := h
  refine ⟨a + 1, fun f hf => ?_⟩
  obtain ⟨g, rfl⟩ : ∃ g, f = g + 1 := ⟨f - 1, by omega⟩
  exact c g (h g (by omega))

structure OrdSpec (os : List Nat) (m q : Nat) (nodes : List Ex) : Prop where
  len : nodes.length = 2 * m + 1
  last : 0 < m → ∃ r e, r < m ∧ (∀ j, j < r → rk (os.getD r 0) ≤ rk (os.getD j 0)) ∧ (∀ j, r < j → j < m → rk (os.getD r 0) < rk (os.getD j 0)) ∧ nodes.getLast? = some e ∧ e.kind = kindO (os.getD r 0) ∧ e.a = ((q + 2 * r : Nat) : Int) ∧ e.b = ((q + 2 * m - 1 : Nat) : Int)
/-- What a level reads: so many of the operators. -/
structure Reads (lvl : Nat) (os : List Nat) (m q : Nat) (nodes : List Ex) : Prop where
  le : m ≤ os.length
  all : ∀ j, j < m → lvl ≤ rk (os.getD j 0)
  next : m < os.length → rk (os.getD m 0) < lvl
  spec : OrdSpec os m q nodes
theorem opF_sg {o : Nat} (h : o < 10) : opF (sg o) = (kindO o, rk o) := by
  rcases ten h with rfl | rfl | rfl | rfl | rfl | rfl | rfl | rfl | rfl | rfl <;> decide

def ChainAt (lvl : Nat) : Prop := ∀ (os : List Nat), (∀ o ∈ os, o < 10) → ∀ (k p d : Nat) (l : List Ex), ∃ m nodes k', Reads lvl os m l.length nodes ∧
  Ev fun f => chainF f lvl (⟨2, [49], p⟩ :: ordToks os k) d none l = .ok (ordToks (os.drop m) k') none (l ++ nodes)
theorem chain_four : ChainAt 4 := by
  intro os h k p d l
  refine ⟨0, [⟨1, 1, 5, [], -1, -1, p⟩], k, ⟨by simp, fun j hj => by omega, fun hm => ?_, ⟨rfl, fun h => by omega⟩⟩, Ev.of 2 fun f => ?_⟩
  · have : os.getD 0 0 < 10 := by
      cases os with
      | nil => simp at hm
      | cons o os => simpa using h o (by simp)
    rcases ten this with e | e | e | e | e | e | e | e | e | e <;> rw [e] <;> decide
  · simp [chainF, unaryF, show numF [49] = (1, 5) by decide]
theorem loop_any {lvl : Nat} (hlvl : lvl ≤ 3) (hc : ChainAt (lvl + 1)) (os : List Nat) (h : ∀ o ∈ os, o < 10) (d : Nat) (l : List Ex) (n : Nat) : ∀ (m0 k : Nat) (nodes0 : List Ex), os.length - m0 ≤ n → m0 ≤ os.length → (∀ j, j < m0 → lvl ≤ rk (os.getD j 0)) → (m0 < os.length → rk (os.getD m0 0) ≤ lvl) → OrdSpec os m0 l.length nodes0 →
    ∃ m nodes k', Reads lvl os m l.length nodes ∧ Ev fun f => loopF f lvl (ordToks (os.drop m0) k) d none (l ++ nodes0) = .ok (ordToks (os.drop m) k') none (l ++ nodes) := by
  induction n with
  | zero =>
    intro m0 k nodes0 hn hm hall hnext hs
    refine ⟨m0, nodes0, k, ⟨hm, hall, fun hlt => by omega, hs⟩, Ev.of 1 fun f => ?_⟩
    rw [List.drop_eq_nil_of_le (by omega)]
    simp only [ordToks, loopF, show opF [61, 61] = (0, 9) by decide]
    rw [if_neg (by omega)]
  | succ n ih =>
    intro m0 k nodes0 hn hm hall hnext hs
    by_cases hlt : m0 < os.length
    case neg =>
      refine ⟨m0, nodes0, k, ⟨hm, hall, fun hlt => by omega, hs⟩, Ev.of 1 fun f => ?_⟩
      rw [List.drop_eq_nil_of_le (by omega)]
      simp only [ordToks, loopF, show opF [61, 61] = (0, 9) by decide]
      rw [if_neg (by omega)]
    case pos =>
      have hd : os.drop m0 = os.getD m0 0 :: os.drop (m0 + 1) := by
        rw [List.drop_eq_getElem_cons hlt]; simp [List.getD, List.getElem?_eq_getElem hlt]
      have ho : os.getD m0 0 < 10 := by
        have : os.getD m0 0 = os[m0] := by simp [List.getD, List.getElem?_eq_getElem hlt]
        rw [this]; exact h _ (List.getElem_mem hlt)
      generalize hoe : os.getD m0 0 = o at hd ho
      by_cases heq : rk o = lvl
      case neg =>
        refine ⟨m0, nodes0, k, ⟨hm, hall, fun hlt => by have := hnext hlt; rw [hoe] at this ⊢; omega, hs⟩, Ev.of 1 fun f => ?_⟩
        rw [hd]
        simp only [ordToks, loopF, opF_sg ho]
        rw [if_neg heq]
      case pos =>
        obtain ⟨m1, nodes1, k1, hr, he⟩ := hc (os.drop (m0 + 1)) (fun o ho => h o (List.mem_of_mem_drop ho)) (k + 1 + (sg o).length + 2) (k + 1 + (sg o).length + 1) d (l ++ nodes0)
        have hget : ∀ j, (os.drop (m0 + 1)).getD j 0 = os.getD (m0 + 1 + j) 0 := fun j => by simp [List.getD, List.getElem?_drop]
        have hle := hr.le
        rw [List.length_drop] at hle
        have hl0 := hs.len
        have hl1 := hr.spec.len
        obtain ⟨m, nodes, k', hr', he'⟩ := ih (m0 + 1 + m1) k1 (nodes0 ++ nodes1 ++ [⟨kindO o, 0, 0, [], ((l ++ nodes0).length - 1 : Nat), ((l ++ nodes0 ++ nodes1).length - 1 : Nat), k + 1⟩]) (by omega) (by omega)
          (fun j hj => by
            rcases Nat.lt_trichotomy j m0 with h1 | h1 | h1
            · exact hall j h1
            · subst h1; rw [hoe]; omega
            · have := hr.all (j - (m0 + 1)) (by omega)
              rw [hget, show m0 + 1 + (j - (m0 + 1)) = j by omega] at this
              omega)
          (fun hlt2 => by
            have := hr.next (by rw [List.length_drop]; omega)
            rw [hget] at this
            omega)
          ⟨by simp; omega, fun _ => ⟨m0, _, by omega, fun j hj => by rw [hoe, heq]; exact hall j hj, fun j h1 h2 => by
            have := hr.all (j - (m0 + 1)) (by omega)
            rw [hget, show m0 + 1 + (j - (m0 + 1)) = j by omega] at this
            rw [hoe]; omega, List.getLast?_concat .., by rw [hoe], by simp; omega, by simp; omega⟩⟩
        refine ⟨m, nodes, k', hr', (he.both he' (R := fun f => loopF (f + 1) lvl (ordToks (os.drop m0) k) d none (l ++ nodes0) = .ok (ordToks (os.drop m) k') none (l ++ nodes)) fun f h1 h2 => ?_).succ fun f hf => hf⟩
        rw [hd]
        simp only [ordToks, loopF, opF_sg ho]
        rw [if_pos heq, h1]
        simp only [Res.bind, List.drop_drop]
        rw [← h2]
        simp only [List.append_assoc]
theorem chain_all (n : Nat) : ∀ lvl, lvl + n = 4 → ChainAt lvl := by
  induction n with
  | zero => intro lvl h; obtain rfl : lvl = 4 := by omega
            exact chain_four
  | succ n ih =>
    intro lvl hl os h k p d l
    have hc := ih (lvl + 1) (by omega)
    obtain ⟨m1, nodes1, k1, hr, he⟩ := hc os h k p d l
    obtain ⟨m, nodes, k', hr', he'⟩ := loop_any (by omega) hc os h d l os.length m1 k1 nodes1 (by omega) hr.le (fun j hj => by have := hr.all j hj; omega) (fun hlt => by have := hr.next hlt; omega) hr.spec
    refine ⟨m, nodes, k', hr', (he.both he' (R := fun f => chainF (f + 1) lvl (⟨2, [49], p⟩ :: ordToks os k) d none l = .ok (ordToks (os.drop m) k') none (l ++ nodes)) fun f h1 h2 => ?_).succ fun f hf => hf⟩
    rw [chainF, if_neg (by omega), h1]
    exact h2
theorem cond_ord (os : List Nat) (h : ∀ o ∈ os, o < 10) : ∃ f c, topF (condF f (⟨2, [49], 0⟩ :: ordToks os 1) 0 none) = some (.ok [c]) ∧ OrdSpec os os.length 0 c.x := by
  obtain ⟨m, nodes, k', hr, he⟩ := chain_all 4 0 rfl os h 1 0 0 []
  have hm : m = os.length := by
    rcases Nat.lt_or_ge m os.length with h1 | h1
    · have := hr.next h1; omega
    · have := hr.le; omega
  subst hm
  obtain ⟨f0, he⟩ := he
  have h1 := he (f0 + 20) (by omega)
  rw [List.drop_length] at h1
  have h2 : ∀ f, exprF (f + 10) [⟨2, [48], k' + 4⟩, ⟨0, [], k' + 5⟩] 0 none = .ok [⟨0, [], k' + 5⟩] none [⟨1, 0, 5, [], -1, -1, k' + 4⟩] := fun f => by simp [exprF, chainF, loopF, unaryF, Res.bind, show opF [] = (0, 9) by decide, show numF [48] = (0, 5) by decide]
  refine ⟨f0 + 23, ⟨1, 1, nodes, [⟨1, 0, 5, [], -1, -1, k' + 4⟩], -1, -1, k' + 1⟩, ?_, hr.spec⟩
  have hx : exprF (f0 + 20) (⟨2, [49], 0⟩ :: ordToks os 1) 0 none = .ok (ordToks [] k') none nodes := by unfold exprF; rw [h1]; rfl
  have hcmp : comparedF (f0 + 20) (⟨2, [49], 0⟩ :: ordToks os 1) 0 none = .ok [⟨0, [], k' + 5⟩] none ⟨1, 1, nodes, [⟨1, 0, 5, [], -1, -1, k' + 4⟩], -1, -1, k' + 1⟩ := by
    unfold comparedF
    rw [hx]
    simp only [Res.bind, ordToks, show relF [61, 61] = 1 by decide]
    rw [if_neg (by decide), h2 (f0 + 10)]
  have hone : oneF (f0 + 20 + 1) (⟨2, [49], 0⟩ :: ordToks os 1) 0 none [] = .ok [⟨0, [], k' + 5⟩] none [⟨1, 1, nodes, [⟨1, 0, 5, [], -1, -1, k' + 4⟩], -1, -1, k' + 1⟩] := by
    simp only [oneF]
    rw [if_neg (by decide), if_neg (by decide), hcmp]
    rfl
  unfold condF
  simp only [eitherF, bothF]
  rw [hone]
  simp [Res.bind, bothL, eitherL, topF]
end Go.Proofs.YtoafcpbpnkfhoaaGreatDoor.Prs
