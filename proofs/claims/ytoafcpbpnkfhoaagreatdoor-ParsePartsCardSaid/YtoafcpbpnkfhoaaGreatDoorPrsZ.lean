/-
  Conditions in a row (ParseLogic): what the text 'a == 0 and|or a == 0 ..' comes to, bare, behind 'not', in brackets behind 'not'. No program is named here.
-/
import Derived.Test.YtoafcpbpnkfhoaaGreatDoorPrsY
namespace Go.Proofs.YtoafcpbpnkfhoaaGreatDoor.Prs
open Lex (Tok lexF lexTo Lx)

def lw (b : Bool) : List UInt8 := if b then [97, 110, 100] else [111, 114]
def lgT (E : List UInt8) : List Bool → List UInt8
  | [] => E
  | b :: bs => 32 :: (lw b ++ 32 :: 97 :: 32 :: 61 :: 61 :: 32 :: 48 :: lgT E bs)
def lgToks (te : Nat → List Tok) : List Bool → Nat → List Tok
  | [], k => te k
  | b :: bs, k => ⟨3, lw b, k + 1⟩ :: ⟨1, [97], k + 1 + (lw b).length + 1⟩ :: ⟨4, [61, 61], k + 1 + (lw b).length + 3⟩ :: ⟨2, [48], k + 1 + (lw b).length + 6⟩ :: lgToks te bs (k + 1 + (lw b).length + 7)

theorem lex_lw (b : Bool) (f : Nat) (l : List UInt8) (k : Nat) : lexTo (f + 1) (32 :: (lw b ++ 32 :: l)) k = Lx.pre [⟨3, lw b, k + 1⟩] (lexTo f (32 :: l) (k + 1 + (lw b).length)) := by cases b <;> rfl
theorem lex_a (f : Nat) (l : List UInt8) (k : Nat) : lexTo (f + 1) (32 :: 97 :: 32 :: l) k = Lx.pre [⟨1, [97], k + 1⟩] (lexTo f (32 :: l) (k + 2)) := by rfl
theorem lex_a0 (f : Nat) (l : List UInt8) (k : Nat) : lexTo (f + 1) (97 :: 32 :: l) k = Lx.pre [⟨1, [97], k⟩] (lexTo f (32 :: l) (k + 1)) := by rfl
theorem lex_eq (f : Nat) (l : List UInt8) (k : Nat) : lexTo (f + 1) (32 :: 61 :: 61 :: 32 :: l) k = Lx.pre [⟨4, [61, 61], k + 1⟩] (lexTo f (32 :: l) (k + 3)) := by rfl
def Parted (l : List UInt8) : Prop := l = [] ∨ ∃ l', l = 32 :: l'
theorem lex_zero (f : Nat) {l : List UInt8} (h : Parted l) (k : Nat) : lexTo (f + 1) (32 :: 48 :: l) k = Lx.pre [⟨2, [48], k + 1⟩] (lexTo f l (k + 2)) := by
  rcases h with rfl | ⟨l', rfl⟩ <;> rfl
theorem lgT_parted {E : List UInt8} (h : Parted E) (bs : List Bool) : Parted (lgT E bs) := by
  cases bs with
  | nil => exact h
  | cons b bs => exact .inr ⟨_, rfl⟩
theorem lex_lg {E : List UInt8} (h : Parted E) {te : Nat → List Tok} (hte : ∀ f k, lexTo (f + 2) E k = .toks (te k)) (bs : List Bool) (f k : Nat) : lexTo (f + 2 + 4 * bs.length) (lgT E bs) k = .toks (lgToks te bs k) := by
  induction bs generalizing k with
  | nil => exact hte f k
  | cons b bs ih =>
    rw [show f + 2 + 4 * (b :: bs).length = f + 2 + 4 * bs.length + 1 + 1 + 1 + 1 by simp; omega]
    show lexTo _ (32 :: (lw b ++ 32 :: 97 :: 32 :: 61 :: 61 :: 32 :: 48 :: lgT E bs)) k = _
    rw [lex_lw, lex_a, lex_eq, lex_zero _ (lgT_parted h bs), ih]
    simp [Lx.pre, lgToks]
theorem lgT_len (E : List UInt8) (bs : List Bool) : 10 * bs.length + E.length ≤ (lgT E bs).length ∧ (lgT E bs).length ≤ 11 * bs.length + E.length := by
  induction bs with
  | nil => simp [lgT]
  | cons b bs ih =>
    have : 2 ≤ (lw b).length ∧ (lw b).length ≤ 3 := by cases b <;> decide
    simp only [lgT, List.length_append, List.length_cons]
    omega
/-- Behind 'a == 0' whatever stood ahead of it. -/
theorem lex_first {E : List UInt8} (h : Parted E) {te : Nat → List Tok} (hte : ∀ f k, lexTo (f + 2) E k = .toks (te k)) (bs : List Bool) (f k : Nat) :
    lexTo (f + 2 + 4 * bs.length + 3) (97 :: 32 :: 61 :: 61 :: 32 :: 48 :: lgT E bs) k = .toks (⟨1, [97], k⟩ :: ⟨4, [61, 61], k + 2⟩ :: ⟨2, [48], k + 5⟩ :: lgToks te bs (k + 6)) := by
  rw [show f + 2 + 4 * bs.length + 3 = f + 2 + 4 * bs.length + 1 + 1 + 1 by omega, lex_a0, lex_eq, lex_zero _ (lgT_parted h bs), lex_lg h hte]
  simp [Lx.pre]
def te0 (k : Nat) : List Tok := [⟨0, [], k⟩]
def te1 (k : Nat) : List Tok := [⟨4, [93], k + 1⟩, ⟨0, [], k + 2⟩]
theorem hte0 (f k : Nat) : lexTo (f + 2) [] k = .toks (te0 k) := by rfl
theorem hte1 (f k : Nat) : lexTo (f + 2) [32, 93] k = .toks (te1 k) := by rfl
theorem lexF_lg (bs : List Bool) (hn : bs.length ≤ 20) : lexF (97 :: 32 :: 61 :: 61 :: 32 :: 48 :: lgT [] bs) = .toks (⟨1, [97], 0⟩ :: ⟨4, [61, 61], 2⟩ :: ⟨2, [48], 5⟩ :: lgToks te0 bs 6) := by
  have hl := lgT_len [] bs
  simp at hl
  unfold lexF
  rw [if_neg (by simp; omega)]
  obtain ⟨f, hf⟩ : ∃ f, (97 :: 32 :: 61 :: 61 :: 32 :: 48 :: lgT [] bs).length + 1 = f + 2 + 4 * bs.length + 3 := ⟨(lgT [] bs).length + 2 - 4 * bs.length, by simp; omega⟩
  rw [hf, lex_first (.inl rfl) hte0]
theorem lexF_not (bs : List Bool) (hn : bs.length ≤ 20) : lexF (110 :: 111 :: 116 :: 32 :: 97 :: 32 :: 61 :: 61 :: 32 :: 48 :: lgT [] bs) = .toks (⟨3, [110, 111, 116], 0⟩ :: ⟨1, [97], 4⟩ :: ⟨4, [61, 61], 6⟩ :: ⟨2, [48], 9⟩ :: lgToks te0 bs 10) := by
  have hl := lgT_len [] bs
  simp at hl
  unfold lexF
  rw [if_neg (by simp; omega)]
  obtain ⟨f, hf⟩ : ∃ f, (110 :: 111 :: 116 :: 32 :: 97 :: 32 :: 61 :: 61 :: 32 :: 48 :: lgT [] bs).length + 1 = f + 2 + 4 * bs.length + 1 + 1 + 1 + 1 := ⟨(lgT [] bs).length + 5 - 4 * bs.length, by simp; omega⟩
  rw [hf]
  have h1 : ∀ F, lexTo (F + 1) (110 :: 111 :: 116 :: 32 :: 97 :: 32 :: 61 :: 61 :: 32 :: 48 :: lgT [] bs) 0 = Lx.pre [⟨3, [110, 111, 116], 0⟩] (lexTo F (32 :: 97 :: 32 :: 61 :: 61 :: 32 :: 48 :: lgT [] bs) 3) := fun F => by rfl
  rw [h1, lex_a, lex_eq, lex_zero _ (lgT_parted (.inl rfl) bs), lex_lg (.inl rfl) hte0]
  simp [Lx.pre]
theorem lexF_in (bs : List Bool) (hn : bs.length ≤ 20) : lexF (110 :: 111 :: 116 :: 32 :: 91 :: 32 :: 97 :: 32 :: 61 :: 61 :: 32 :: 48 :: lgT [32, 93] bs) = .toks (⟨3, [110, 111, 116], 0⟩ :: ⟨4, [91], 4⟩ :: ⟨1, [97], 6⟩ :: ⟨4, [61, 61], 8⟩ :: ⟨2, [48], 11⟩ :: lgToks te1 bs 12) := by
  have hl := lgT_len [32, 93] bs
  simp at hl
  unfold lexF
  rw [if_neg (by simp; omega)]
  obtain ⟨f, hf⟩ : ∃ f, (110 :: 111 :: 116 :: 32 :: 91 :: 32 :: 97 :: 32 :: 61 :: 61 :: 32 :: 48 :: lgT [32, 93] bs).length + 1 = f + 2 + 4 * bs.length + 1 + 1 + 1 + 1 + 1 := ⟨(lgT [32, 93] bs).length + 6 - 4 * bs.length, by simp; omega⟩
  rw [hf]
  have h1 : ∀ F, lexTo (F + 1) (110 :: 111 :: 116 :: 32 :: 91 :: 32 :: 97 :: 32 :: 61 :: 61 :: 32 :: 48 :: lgT [32, 93] bs) 0 = Lx.pre [⟨3, [110, 111, 116], 0⟩] (lexTo F (32 :: 91 :: 32 :: 97 :: 32 :: 61 :: 61 :: 32 :: 48 :: lgT [32, 93] bs) 3) := fun F => by rfl
  have h2 : ∀ F, lexTo (F + 1) (32 :: 91 :: 32 :: 97 :: 32 :: 61 :: 61 :: 32 :: 48 :: lgT [32, 93] bs) 3 = Lx.pre [⟨4, [91], 4⟩] (lexTo F (32 :: 97 :: 32 :: 61 :: 61 :: 32 :: 48 :: lgT [32, 93] bs) 5) := fun F => by rfl
  rw [h1, h2, lex_a, lex_eq, lex_zero _ (lgT_parted (.inr ⟨_, rfl⟩) bs), lex_lg (.inr ⟨_, rfl⟩) hte1]
  simp [Lx.pre]

/-- A token behind which nothing of an expression comes. -/
def Ends (us : List Tok) : Prop := ∃ t vs, us = t :: vs ∧ (t.text = [97, 110, 100] ∨ t.text = [111, 114] ∨ t.text = [] ∨ t.text = [93])
def relN (p q r : Nat) : Cn := ⟨1, 1, [⟨2, 0, 0, [97], -1, -1, p⟩], [⟨1, 0, 5, [], -1, -1, r⟩], -1, -1, q⟩
theorem one_rel (p q r d : Nat) (dp : Option Nat) {us : List Tok} (h : Ends us) (l : List Cn) (f : Nat) : oneF (f + 20) (⟨1, [97], p⟩ :: ⟨4, [61, 61], q⟩ :: ⟨2, [48], r⟩ :: us) d dp l = .ok us dp (l ++ [relN p q r]) := by
  obtain ⟨⟨kd, tx, pl⟩, vs, rfl, h⟩ := h
  simp only at h
  rcases h with rfl | rfl | rfl | rfl <;>
  simp [oneF, comparedF, exprF, chainF, loopF, unaryF, namedF, Res.bind, relN, show opF [61, 61] = (0, 9) by decide, show opF [] = (0, 9) by decide, show opF [93] = (0, 9) by decide, show opF [97, 110, 100] = (0, 9) by decide, show opF [111, 114] = (0, 9) by decide, show relF [61, 61] = 1 by decide, show numF [48] = (0, 5) by decide]
def TeOk (te : Nat → List Tok) : Prop := ∀ k, ∃ t vs, te k = t :: vs ∧ (t.text = [] ∨ t.text = [93])
theorem teOk0 : TeOk te0 := fun _ => ⟨_, _, rfl, .inl rfl⟩
theorem teOk1 : TeOk te1 := fun _ => ⟨_, _, rfl, .inr rfl⟩
theorem lg_ends {te : Nat → List Tok} (h : TeOk te) (bs : List Bool) (k : Nat) : Ends (lgToks te bs k) := by
  cases bs with
  | nil => obtain ⟨t, vs, e, h⟩ := h k; exact ⟨t, vs, e, by rcases h with h | h <;> simp [h]⟩
  | cons b bs => exact ⟨_, _, rfl, by cases b <;> simp [lw]⟩

/-- The list behind so many words. -/
structure Lg (bs : List Bool) (m q : Nat) (nodes : List Cn) : Prop where
  len : nodes.length = 2 * m
  last : 0 < m → ∃ e, nodes.getLast? = some e ∧ ((∃ r, r < m ∧ bs.getD r true = false ∧ (∀ j, r < j → j < m → bs.getD j true = true) ∧ e.kind = 4 ∧ e.a = ((q - 1 + 2 * r : Nat) : Int)) ∨ ((∀ j, j < m → bs.getD j true = true) ∧ e.kind = 3 ∧ e.a = ((q - 1 + 2 * (m - 1) : Nat) : Int)))
theorem drop_cons {bs : List Bool} {m : Nat} (h : m < bs.length) : bs.drop m = bs.getD m true :: bs.drop (m + 1) := by
  rw [List.drop_eq_getElem_cons h]; simp [List.getD, List.getElem?_eq_getElem h]
/-- A row of 'and's. -/
theorem both_row {te : Nat → List Tok} (hte : TeOk te) (bs : List Bool) (d : Nat) (l : List Cn) (hl : 0 < l.length) (n : Nat) : ∀ (s m k : Nat) (nodes : List Cn), bs.length - (s + m) ≤ n → s + m ≤ bs.length → (∀ j, j < m → bs.getD (s + j) true = true) → nodes.length = 2 * m → (0 < m → ∃ e, nodes.getLast? = some e ∧ e.kind = 3 ∧ e.a = ((l.length - 1 + 2 * (m - 1) : Nat) : Int)) →
    ∃ m' nodes' k', s + m' ≤ bs.length ∧ (∀ j, j < m' → bs.getD (s + j) true = true) ∧ (s + m' < bs.length → bs.getD (s + m') true = false) ∧ nodes'.length = 2 * m' ∧ (0 < m' → ∃ e, nodes'.getLast? = some e ∧ e.kind = 3 ∧ e.a = ((l.length - 1 + 2 * (m' - 1) : Nat) : Int)) ∧
      Ev fun f => bothL f (lgToks te (bs.drop (s + m)) k) d none (l ++ nodes) = .ok (lgToks te (bs.drop (s + m')) k') none (l ++ nodes') := by
  have stop : ∀ (s m k : Nat) (nodes : List Cn), s + m ≤ bs.length → (s + m < bs.length → bs.getD (s + m) true = false) → Ev fun f => bothL f (lgToks te (bs.drop (s + m)) k) d none (l ++ nodes) = .ok (lgToks te (bs.drop (s + m)) k) none (l ++ nodes) := by
    intro s m k nodes hm hf
    refine Ev.of 1 fun f => ?_
    by_cases hlt : s + m < bs.length
    · rw [drop_cons hlt, hf hlt]
      simp only [lgToks, bothL]
      rw [if_neg (by decide)]
    · rw [List.drop_eq_nil_of_le (by omega)]
      obtain ⟨t, vs, e, ht⟩ := hte k
      simp only [lgToks]
      rw [e]
      simp only [bothL]
      rw [if_neg (by rcases ht with h | h <;> rw [h] <;> decide)]
  induction n with
  | zero =>
    intro s m k nodes hn hm hall hlen hlast
    exact ⟨m, nodes, k, hm, hall, fun h => by omega, hlen, hlast, stop s m k nodes hm (fun h => by omega)⟩
  | succ n ih =>
    intro s m k nodes hn hm hall hlen hlast
    by_cases hlt : s + m < bs.length
    case neg => exact ⟨m, nodes, k, hm, hall, fun h => by omega, hlen, hlast, stop s m k nodes hm (fun h => by omega)⟩
    case pos =>
      cases hb : bs.getD (s + m) true with
      | false => exact ⟨m, nodes, k, hm, hall, fun _ => hb, hlen, hlast, stop s m k nodes hm (fun _ => hb)⟩
      | true =>
        obtain ⟨m', nodes', k', h1, h2, h3, h4, h5, h6⟩ := ih s (m + 1) (k + 1 + (lw true).length + 7) (nodes ++ [relN (k + 1 + (lw true).length + 1) (k + 1 + (lw true).length + 3) (k + 1 + (lw true).length + 6)] ++ [⟨3, 0, [], [], ((l ++ nodes).length - 1 : Nat), ((l ++ nodes ++ [relN (k + 1 + (lw true).length + 1) (k + 1 + (lw true).length + 3) (k + 1 + (lw true).length + 6)]).length - 1 : Nat), k + 1⟩]) (by omega) (by omega)
          (fun j hj => by
            rcases Nat.lt_or_ge j m with h | h
            · exact hall j h
            · rw [show j = m by omega]; exact hb)
          (by simp; omega) (fun _ => ⟨_, List.getLast?_concat .., rfl, by simp; omega⟩)
        refine ⟨m', nodes', k', h1, h2, h3, h4, h5, ?_⟩
        obtain ⟨f0, h6⟩ := h6
        refine ⟨max f0 20 + 1, fun f hf => ?_⟩
        obtain ⟨g, rfl⟩ : ∃ g, f = g + 20 + 1 := ⟨f - 21, by omega⟩
        have h7 := h6 (g + 20) (by omega)
        rw [show s + (m + 1) = s + m + 1 by omega] at h7
        rw [drop_cons hlt, hb, ← h7]
        simp only [lgToks, bothL]
        rw [if_pos (by decide), one_rel _ _ _ _ _ (lg_ends hte _ _)]
        simp only [Res.bind, List.append_assoc]
theorem either_row {te : Nat → List Tok} (hte : TeOk te) (bs : List Bool) (d : Nat) (l0 : List Cn) (hl : 0 < l0.length) (n : Nat) : ∀ (m k : Nat) (nodes : List Cn), bs.length - m ≤ n → m ≤ bs.length → (m < bs.length → bs.getD m true = false) → Lg bs m l0.length nodes →
    ∃ nodes' k', Lg bs bs.length l0.length nodes' ∧ Ev fun f => eitherL f (lgToks te (bs.drop m) k) d none (l0 ++ nodes) = .ok (te k') none (l0 ++ nodes') := by
  have stop : ∀ (m k : Nat) (nodes : List Cn), m = bs.length → Lg bs m l0.length nodes → ∃ nodes' k', Lg bs bs.length l0.length nodes' ∧ Ev fun f => eitherL f (lgToks te (bs.drop m) k) d none (l0 ++ nodes) = .ok (te k') none (l0 ++ nodes') := by
    intro m k nodes hm hg
    subst hm
    refine ⟨nodes, k, hg, Ev.of 1 fun f => ?_⟩
    rw [List.drop_length]
    obtain ⟨t, vs, e, ht⟩ := hte k
    simp only [lgToks]
    rw [e]
    simp only [eitherL]
    rw [if_neg (by rcases ht with h | h <;> rw [h] <;> decide)]
  induction n with
  | zero => intro m k nodes hn hm hf hg; exact stop m k nodes (by omega) hg
  | succ n ih =>
    intro m k nodes hn hm hf hg
    by_cases hlt : m < bs.length
    case neg => exact stop m k nodes (by omega) hg
    case pos =>
      have hb := hf hlt
      have hlen := hg.len
      obtain ⟨m', nodes1, k1, h1, h2, h3, h4, h5, h6⟩ := both_row hte bs d (l0 ++ nodes ++ [relN (k + 1 + (lw false).length + 1) (k + 1 + (lw false).length + 3) (k + 1 + (lw false).length + 6)]) (by simp; omega) bs.length (m + 1) 0 (k + 1 + (lw false).length + 7) [] (by omega) (by omega) (fun j hj => by omega) rfl (fun h => by omega)
      obtain ⟨nodes', k', hg', he'⟩ := ih (m + 1 + m') k1 (nodes ++ [relN (k + 1 + (lw false).length + 1) (k + 1 + (lw false).length + 3) (k + 1 + (lw false).length + 6)] ++ nodes1 ++ [⟨4, 0, [], [], ((l0 ++ nodes).length - 1 : Nat), ((l0 ++ nodes ++ [relN (k + 1 + (lw false).length + 1) (k + 1 + (lw false).length + 3) (k + 1 + (lw false).length + 6)] ++ nodes1).length - 1 : Nat), k + 1⟩]) (by omega) h1 h3
        ⟨by simp; omega, fun _ => ⟨_, List.getLast?_concat .., .inl ⟨m, by omega, hb, fun j hj1 hj2 => by
          have := h2 (j - (m + 1)) (by omega)
          rwa [show m + 1 + (j - (m + 1)) = j by omega] at this, rfl, by simp; omega⟩⟩⟩
      refine ⟨nodes', k', hg', ?_⟩
      obtain ⟨f1, h6⟩ := h6
      obtain ⟨f2, he'⟩ := he'
      refine ⟨max (max f1 f2) 20 + 2, fun f hf => ?_⟩
      obtain ⟨g, rfl⟩ : ∃ g, f = g + 20 + 1 + 1 := ⟨f - 22, by omega⟩
      have h7 := he' (g + 20 + 1) (by omega)
      have h8 := h6 (g + 20) (by omega)
      rw [Nat.add_zero, List.append_nil] at h8
      rw [drop_cons hlt, hb, ← h7]
      simp only [lgToks, eitherL]
      rw [if_pos (by decide)]
      simp only [bothF]
      rw [one_rel _ _ _ _ _ (lg_ends hte _ _)]
      simp only [Res.bind]
      rw [h8]
      simp only [List.append_assoc]
theorem either_first {te : Nat → List Tok} (hte : TeOk te) (bs : List Bool) (d k : Nat) (us0 : List Tok) (l0 : List Cn) (hl : 0 < l0.length) (hone : Ev fun f => oneF f us0 d none [] = .ok (lgToks te bs k) none l0) :
    ∃ nodes k', Lg bs bs.length l0.length nodes ∧ Ev fun f => eitherF f us0 d none [] = .ok (te k') none (l0 ++ nodes) := by
  obtain ⟨m', nodes1, k1, h1, h2, h3, h4, h5, h6⟩ := both_row hte bs d l0 hl bs.length 0 0 k [] (by omega) (by omega) (fun j hj => by omega) rfl (fun h => by omega)
  simp only [Nat.zero_add, List.drop_zero, List.append_nil] at h1 h2 h3 h6
  obtain ⟨nodes, k', hg, he⟩ := either_row hte bs d l0 hl bs.length m' k1 nodes1 (by omega) h1 h3 ⟨h4, fun h => by obtain ⟨e, e1, e2, e3⟩ := h5 h; exact ⟨e, e1, .inr ⟨h2, e2, e3⟩⟩⟩
  refine ⟨nodes, k', hg, ?_⟩
  obtain ⟨f0, h0⟩ := hone
  obtain ⟨f1, h6⟩ := h6
  obtain ⟨f2, he⟩ := he
  refine ⟨max f0 (max f1 f2) + 2, fun f hf => ?_⟩
  obtain ⟨g, rfl⟩ : ∃ g, f = g + 1 + 1 := ⟨f - 2, by omega⟩
  simp only [eitherF, bothF]
  rw [h0 g (by omega)]
  simp only [Res.bind]
  rw [h6 g (by omega)]
  exact he (g + 1) (by omega)
theorem one_first {te : Nat → List Tok} (hte : TeOk te) (bs : List Bool) (p q r d k : Nat) (l : List Cn) : Ev fun f => oneF f (⟨1, [97], p⟩ :: ⟨4, [61, 61], q⟩ :: ⟨2, [48], r⟩ :: lgToks te bs k) d none l = .ok (lgToks te bs k) none (l ++ [relN p q r]) :=
  Ev.of 20 fun f => one_rel p q r d none (lg_ends hte bs k) l f
def notN (a : Nat) : Cn := ⟨2, 0, [], [], (a : Nat), -1, 0⟩
theorem cond_lg (bs : List Bool) : ∃ f c, topF (condF f (⟨1, [97], 0⟩ :: ⟨4, [61, 61], 2⟩ :: ⟨2, [48], 5⟩ :: lgToks te0 bs 6) 0 none) = some (.ok (relN 0 2 5 :: c)) ∧ Lg bs bs.length 1 c := by
  obtain ⟨c, k', hg, f0, he⟩ := either_first teOk0 bs 0 6 _ [relN 0 2 5] (by simp) (one_first teOk0 bs 0 2 5 0 6 [])
  refine ⟨f0, c, ?_, hg⟩
  unfold condF
  rw [he f0 (by omega)]
  rfl
theorem cond_not (bs : List Bool) : ∃ f c, topF (condF f (⟨3, [110, 111, 116], 0⟩ :: ⟨1, [97], 4⟩ :: ⟨4, [61, 61], 6⟩ :: ⟨2, [48], 9⟩ :: lgToks te0 bs 10) 0 none) = some (.ok (relN 4 6 9 :: notN 0 :: c)) ∧ Lg bs bs.length 2 c := by
  obtain ⟨c, k', hg, f0, he⟩ := either_first teOk0 bs 0 10 (⟨3, [110, 111, 116], 0⟩ :: ⟨1, [97], 4⟩ :: ⟨4, [61, 61], 6⟩ :: ⟨2, [48], 9⟩ :: lgToks te0 bs 10) [relN 4 6 9, notN 0] (by simp) ((one_first teOk0 bs 4 6 9 1 10 []).succ fun f hf => by
    simp only [oneF]
    rw [if_pos (by decide), show dpF 0 none 0 = none by decide, hf]
    rfl)
  refine ⟨f0, c, ?_, hg⟩
  unfold condF
  rw [he f0 (by omega)]
  rfl
theorem cond_in (bs : List Bool) : ∃ f c, topF (condF f (⟨3, [110, 111, 116], 0⟩ :: ⟨4, [91], 4⟩ :: ⟨1, [97], 6⟩ :: ⟨4, [61, 61], 8⟩ :: ⟨2, [48], 11⟩ :: lgToks te1 bs 12) 0 none) = some (.ok (c ++ [notN (c.length - 1)])) ∧ c.length = 2 * bs.length + 1 := by
  obtain ⟨c, k', hg, f0, he⟩ := either_first teOk1 bs 2 12 _ [relN 6 8 11] (by simp) (one_first teOk1 bs 6 8 11 2 12 [])
  refine ⟨f0 + 1 + 1 + 1 + 1, [relN 6 8 11] ++ c, ?_, by have := hg.len; simp; omega⟩
  have h1 : oneF (f0 + 1 + 1) (⟨3, [110, 111, 116], 0⟩ :: ⟨4, [91], 4⟩ :: ⟨1, [97], 6⟩ :: ⟨4, [61, 61], 8⟩ :: ⟨2, [48], 11⟩ :: lgToks te1 bs 12) 0 none [] = .ok [⟨0, [], k' + 2⟩] none ([relN 6 8 11] ++ c ++ [notN (([relN 6 8 11] ++ c).length - 1)]) := by
    simp only [oneF]
    rw [if_pos (by decide), if_neg (by decide), if_pos (by decide), show dpF 0 none 0 = none by decide, show dpF 1 none 4 = none by decide, he f0 (by omega)]
    rfl
  unfold condF
  simp only [eitherF, bothF]
  rw [h1]
  simp [Res.bind, bothL, eitherL, topF]
end Go.Proofs.YtoafcpbpnkfhoaaGreatDoor.Prs
