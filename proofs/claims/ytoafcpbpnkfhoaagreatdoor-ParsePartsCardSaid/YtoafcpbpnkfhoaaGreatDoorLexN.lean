/-
  Plain facts on numbers' digits, and how a number is read. No program is named here.
-/
import Derived.Test.YtoafcpbpnkfhoaaGreatDoorLexP
namespace Go.Proofs.YtoafcpbpnkfhoaaGreatDoor.Lex

def digTo : Nat → Nat → List UInt8
  | 0, _ => []
  | f + 1, n => if n < 10 then [(48 + n).toUInt8] else digTo f (n / 10) ++ [(48 + n % 10).toUInt8]
def uF (u : Bool) : List UInt8 := if u then [117] else []
def digitsOk (d : List UInt8) : Prop := ∀ c ∈ d, 48 ≤ c.toNat ∧ c.toNat ≤ 57
theorem dig_byte (n : Nat) (h : n < 10) : (48 + n).toUInt8.toNat = 48 + n := by
  simp [Nat.toUInt8, UInt8.toNat_ofNat']; omega
theorem val_app (l : List UInt8) (c : UInt8) : valF (l ++ [c]) = valF l * 10 + (c.toNat - 48) := by simp [valF]
theorem dig_all : ∀ (f n : Nat), n < 10 ^ f → 0 < f → digitsOk (digTo f n) ∧ valF (digTo f n) = n ∧ 1 ≤ (digTo f n).length ∧ (digTo f n).length ≤ f ∧ ((digTo f n).head? = some 48 → (digTo f n).length = 1) := by
  intro f
  induction f with
  | zero => intro n _ h; omega
  | succ f ih =>
    intro n hn _
    unfold digTo
    by_cases h10 : n < 10
    · rw [if_pos h10]
      refine ⟨?_, ?_, by simp, by simp, by simp⟩
      · intro c hc
        simp only [List.mem_singleton] at hc
        subst hc; rw [dig_byte n h10]; omega
      · simp only [valF, List.foldl_cons, List.foldl_nil]; rw [dig_byte n h10]; omega
    · rw [if_neg h10]
      have hf : 0 < f := by
        rcases Nat.eq_zero_or_pos f with h | h
        · subst h; simp at hn; omega
        · exact h
      have hn' : n / 10 < 10 ^ f := by rw [Nat.pow_succ] at hn; omega
      obtain ⟨a, b, c, d, e⟩ := ih (n / 10) hn' hf
      have hm : n % 10 < 10 := Nat.mod_lt _ (by omega)
      refine ⟨?_, ?_, by simp, by simp; omega, ?_⟩
      · intro x hx
        rcases List.mem_append.1 hx with h | h
        · exact a x h
        · simp only [List.mem_singleton] at h
          subst h; rw [dig_byte _ hm]; omega
      · rw [val_app, b, dig_byte _ hm]; omega
      · intro h
        have h : (digTo f (n / 10)).head? = some 48 := by
          cases hd : digTo f (n / 10) with
          | nil => rw [hd] at c; simp at c
          | cons x r => rw [hd] at h; simpa using h
        have := e h
        -- one digit that is nought: n / 10 = 0
        have hv : valF (digTo f (n / 10)) = 0 := by
          match hd : digTo f (n / 10), this, h with
          | [x], _, h => simp only [List.head?_cons, Option.some.injEq] at h; subst h; rfl
        omega
theorem span_full (d r : List UInt8) (hd : digitsOk d) (hr : ∀ c, r.head? = some c → isDigitF c = false) : spanF isDigitF (d ++ r) = d.length := by
  induction d with
  | nil =>
    cases r with
    | nil => rfl
    | cons c r => simp [spanF, hr c rfl]
  | cons c d ih =>
    have hc := hd c List.mem_cons_self
    have : isDigitF c = true := by simp [isDigitF]; omega
    simp [spanF, this, ih (fun x hx => hd x (List.mem_cons_of_mem _ hx))]
theorem numLen_u (d r : List UInt8) (hd : digitsOk d) (u : Bool) (hr : u = false → ∀ c, r.head? = some c → isDigitF c = false ∧ c ≠ 117) : numLen (d ++ uF u ++ r) = d.length + (uF u).length := by
  unfold numLen
  cases u with
  | true =>
    have hs : spanF isDigitF (d ++ uF true ++ r) = d.length := by
      rw [List.append_assoc]; exact span_full d _ hd (fun c hc => by simp [uF] at hc; subst hc; decide)
    rw [hs, List.append_assoc, List.drop_left' rfl]
    simp [uF]
  | false =>
    have hs : spanF isDigitF (d ++ uF false ++ r) = d.length := by
      rw [List.append_assoc]; exact span_full d _ hd (fun c hc => (hr rfl c (by simpa [uF] using hc)).1)
    rw [hs, List.append_assoc, List.drop_left' rfl, if_neg]
    · simp [uF]
    · intro h
      exact (hr rfl 117 (by simpa [uF] using h)).2 rfl
theorem read_u (d : List UInt8) (hd : digitsOk d) (u : Bool) : readF (d ++ uF u) = readN d u := by
  have hu : hasU (d ++ uF u) = u := by
    unfold hasU
    cases u with
    | true => simp [uF]
    | false =>
      simp only [uF, Bool.false_eq_true, if_false, List.append_nil, decide_eq_false_iff_not]
      intro h
      have := hd 117 (List.mem_of_getLast? h)
      simp at this
  unfold readF cutU
  rw [hu]
  cases u <;> simp [uF]
theorem readN_ok (d : List UInt8) (u : Bool) (hd : digitsOk d) (h1 : 1 ≤ d.length) (h10 : d.length ≤ 10) (hz : d.head? = some 48 → d.length = 1) :
    readN d u = if maxN u < valF d then .bad true else .ok (valF d) u := by
  have hs := span_full d [] hd (fun c hc => by simp at hc)
  rw [List.append_nil] at hs
  unfold readN
  rw [if_neg (by rintro (h | h); · rw [h] at h1; simp at h1
                 · omega), if_neg (by omega)]
  by_cases hm : maxN u < valF d
  · rw [if_pos hm, if_pos hm]
  · rw [if_neg hm, if_neg hm, if_neg (by rintro ⟨a, b⟩; have := hz a; omega)]
theorem readN_nought (d : List UInt8) (u : Bool) (hd : digitsOk d) (h1 : 1 ≤ d.length) : ∃ b, readN (48 :: d) u = .bad b := by
  have hd' : digitsOk (48 :: d) := fun c hc => by
    rcases List.mem_cons.1 hc with rfl | h
    · decide
    · exact hd c h
  have hs := span_full (48 :: d) [] hd' (fun c hc => by simp at hc)
  rw [List.append_nil] at hs
  unfold readN
  rw [if_neg (by rintro (h | h); · cases h
                 · omega)]
  by_cases hl : 10 < (48 :: d).length
  · exact ⟨true, by rw [if_pos hl]⟩
  rw [if_neg hl]
  by_cases hm : maxN u < valF (48 :: d)
  · exact ⟨true, by rw [if_pos hm]⟩
  · exact ⟨false, by rw [if_neg hm, if_pos ⟨rfl, by simp; omega⟩]⟩
theorem gap_digit {c : UInt8} (l : List UInt8) (h : 48 ≤ c.toNat ∧ c.toNat ≤ 57) : gapG false (c :: l) = 0 := by
  have hb : blankF c = false := by simp [blankF]; omega
  have h35 : ¬ c.toNat = 35 := by omega
  simp [gapG, hb, h35]
theorem gap_blank (l : List UInt8) : gapG false (32 :: l) = gapG false l + 1 := by simp [gapG, inLineF, blankF]
theorem scan_digit {c : UInt8} (l : List UInt8) (h : 48 ≤ c.toNat ∧ c.toNat ≤ 57) : scanF (c :: l) = numberF (c :: l) := by
  have h1 : isLetterF c = false := by simp [isLetterF]; omega
  have h2 : isDigitF c = true := by simp [isDigitF]; omega
  simp [scanF, h1, h2]
/-- A number's token: its digits d, perhaps a u; behind it r. -/
theorem number_u (d r : List UInt8) (u : Bool) (hd : digitsOk d) (hr : u = false → ∀ c, r.head? = some c → isDigitF c = false ∧ c ≠ 117) :
    numberF (d ++ uF u ++ r) = match readN d u with | .bad b => .bad b | .ok _ _ => if 0 < spanF inWordF r then .bad false else .tok 2 (d.length + (uF u).length) := by
  have hl := numLen_u d r hd u hr
  have hlen : (d ++ uF u).length = d.length + (uF u).length := by simp
  unfold numberF
  rw [hl, ← hlen, List.take_left' rfl, List.drop_left' rfl, read_u d hd u, hlen]
  cases readN d u <;> rfl
theorem number_tok (n : Nat) (u : Bool) (hn : n < 10000000000) (h : n ≤ maxN u) :
    lexF (32 :: (digTo 10 n ++ uF u ++ [32])) = .toks [⟨2, digTo 10 n ++ uF u, 1⟩, ⟨0, [], (digTo 10 n ++ uF u).length + 2⟩] ∧ readF (digTo 10 n ++ uF u) = .ok n u ∧ lexF (digTo 10 n ++ uF u ++ [57, 57, 57, 57, 57, 57, 57, 57, 57, 57]) = .bad (!u) 0 := by
  obtain ⟨h1, h2, h3, h4, h5⟩ := dig_all 10 n (by simpa using hn) (by omega)
  generalize digTo 10 n = d at *
  have hne : d ≠ [] := by intro e; rw [e] at h3; simp at h3
  have hr : readN d u = .ok n u := by rw [readN_ok d u h1 h3 h4 h5, h2, if_neg (by omega)]
  have hul : (uF u).length ≤ 1 := by cases u <;> simp [uF]
  obtain ⟨c, d', rfl⟩ : ∃ c d', d = c :: d' := by cases d with | nil => exact absurd rfl hne | cons c d' => exact ⟨c, d', rfl⟩
  have hc := h1 c List.mem_cons_self
  refine ⟨?_, by rw [read_u _ h1 u, hr], ?_⟩
  · have hgap : gapG false (32 :: (c :: d' ++ uF u ++ [32])) = 1 := by rw [gap_blank]; simp only [List.cons_append]; rw [gap_digit _ hc]
    have hsc : scanF (c :: d' ++ uF u ++ [32]) = .tok 2 ((c :: d').length + (uF u).length) := by
      have := number_u (c :: d') [32] u h1 (fun _ x hx => by simp at hx; subst hx; decide)
      rw [hr] at this
      simp only [List.cons_append] at this ⊢
      rw [scan_digit _ hc, this]
      rfl
    have hlen : (c :: d' ++ uF u).length = (c :: d').length + (uF u).length := by simp; omega
    unfold lexF
    rw [if_neg (by simp at h4 ⊢; omega)]
    rw [show (32 :: (c :: d' ++ uF u ++ [32])).length + 1 = ((c :: d' ++ uF u).length + 1 + 1) + 1 by simp; omega]
    have h1' : ∀ f, lexTo (f + 1) (32 :: (c :: d' ++ uF u ++ [32])) 0 = Lx.pre [⟨2, c :: d' ++ uF u, 1⟩] (lexTo f [32] (1 + (c :: d' ++ uF u).length)) := by
      intro f
      simp only [lexTo, hgap, List.drop_succ_cons, List.drop_zero, hsc, Nat.zero_add]
      rw [← hlen, List.take_left' rfl, show 1 + (c :: d' ++ uF u).length = (c :: d' ++ uF u).length + 1 by omega, List.drop_succ_cons, List.drop_left' rfl]
    rw [h1']
    have h2' : ∀ f k, lexTo (f + 1) [32] k = .toks [⟨0, [], k + 1⟩] := by intro f k; rfl
    rw [h2']
    simp only [Lx.pre, List.cons_append, List.nil_append]
    rw [show 1 + (c :: (d' ++ uF u)).length + 1 = (c :: (d' ++ uF u)).length + 2 by omega]
  · have hgap : gapG false (c :: d' ++ uF u ++ [57, 57, 57, 57, 57, 57, 57, 57, 57, 57]) = 0 := by simp only [List.cons_append]; exact gap_digit _ hc
    have hsc : scanF (c :: d' ++ uF u ++ [57, 57, 57, 57, 57, 57, 57, 57, 57, 57]) = .bad (!u) := by
      simp only [List.cons_append]
      rw [scan_digit _ hc]
      cases u with
      | true =>
        have := number_u (c :: d') [57, 57, 57, 57, 57, 57, 57, 57, 57, 57] true h1 (fun h => by cases h)
        rw [hr] at this
        simp only [List.cons_append] at this
        rw [this]; rfl
      | false =>
        have hd2 : digitsOk (c :: d' ++ [57, 57, 57, 57, 57, 57, 57, 57, 57, 57]) := fun x hx => by
          rcases List.mem_append.1 hx with h | h
          · exact h1 x h
          · simp at h; subst h; decide
        have := number_u (c :: d' ++ [57, 57, 57, 57, 57, 57, 57, 57, 57, 57]) [] false hd2 (fun _ x hx => by simp at hx)
        have hr2 : readN (c :: d' ++ [57, 57, 57, 57, 57, 57, 57, 57, 57, 57]) false = .bad true := by
          have hs := span_full (c :: d' ++ [57, 57, 57, 57, 57, 57, 57, 57, 57, 57]) [] hd2 (fun c hc => by simp at hc)
          rw [List.append_nil] at hs
          unfold readN
          rw [if_neg (by rintro (h | h); · simp at h
                         · omega), if_pos (by simp)]
        rw [hr2] at this
        simpa [uF] using this
    unfold lexF
    rw [if_neg (by simp at h4 ⊢; omega)]
    simp only [lexTo, hgap, List.drop_zero, hsc, Nat.zero_add]
theorem number_great (n : Nat) (hn : n < 10000000000) (h : maxN false < n) :
    lexF (32 :: (digTo 10 n ++ uF false ++ [32])) = .bad true 1 ∧ readF (digTo 10 n ++ uF false) = .bad true := by
  obtain ⟨h1, h2, h3, h4, h5⟩ := dig_all 10 n (by simpa using hn) (by omega)
  generalize digTo 10 n = d at *
  have hne : d ≠ [] := by intro e; rw [e] at h3; simp at h3
  have hr : readN d false = .bad true := by rw [readN_ok d false h1 h3 h4 h5, h2, if_pos h]
  obtain ⟨c, d', rfl⟩ : ∃ c d', d = c :: d' := by cases d with | nil => exact absurd rfl hne | cons c d' => exact ⟨c, d', rfl⟩
  have hc := h1 c List.mem_cons_self
  refine ⟨?_, by rw [read_u _ h1 false, hr]⟩
  have hgap : gapG false (32 :: (c :: d' ++ uF false ++ [32])) = 1 := by rw [gap_blank]; simp only [List.cons_append]; rw [gap_digit _ hc]
  have hsc : scanF (c :: d' ++ uF false ++ [32]) = .bad true := by
    have := number_u (c :: d') [32] false h1 (fun _ x hx => by simp at hx; subst hx; decide)
    rw [hr] at this
    simp only [List.cons_append] at this ⊢
    rw [scan_digit _ hc, this]
  unfold lexF
  rw [if_neg (by simp [uF] at h4 ⊢; omega)]
  simp only [lexTo, hgap, List.drop_succ_cons, List.drop_zero, hsc, Nat.zero_add]
theorem number_nought (n : Nat) (u : Bool) (hn : n < 10000000000) : ∃ b, readF (48 :: (digTo 10 n ++ uF u)) = .bad b ∧ lexF (32 :: 48 :: (digTo 10 n ++ uF u)) = .bad b 1 := by
  obtain ⟨h1, h2, h3, h4, h5⟩ := dig_all 10 n (by simpa using hn) (by omega)
  generalize digTo 10 n = d at *
  have hul : (uF u).length ≤ 1 := by cases u <;> simp [uF]
  obtain ⟨b, hr⟩ := readN_nought d u h1 h3
  have hd' : digitsOk (48 :: d) := fun c hc => by
    rcases List.mem_cons.1 hc with rfl | h
    · decide
    · exact h1 c h
  refine ⟨b, ?_, ?_⟩
  · have := read_u (48 :: d) hd' u
    rw [hr] at this; simpa using this
  · have hgap : gapG false (32 :: 48 :: (d ++ uF u)) = 1 := by rw [gap_blank, gap_digit _ (by decide)]
    have hsc : scanF (48 :: (d ++ uF u)) = .bad b := by
      have := number_u (48 :: d) [] u hd' (fun _ x hx => by simp at hx)
      rw [hr] at this
      simp only [List.cons_append, List.append_nil] at this
      rw [scan_digit _ (by decide), this]
    unfold lexF
    rw [if_neg (by simp; omega)]
    simp only [lexTo, hgap, List.drop_succ_cons, List.drop_zero, hsc, Nat.zero_add]
end Go.Proofs.YtoafcpbpnkfhoaaGreatDoor.Lex
