/-
  Plain facts on tokens: where they stand; two texts with a line's end between; words and names. No program is named here.
-/
import Derived.Test.YtoafcpbpnkfhoaaGreatDoorLexP
namespace Go.Proofs.YtoafcpbpnkfhoaaGreatDoor.Lex

deriving instance DecidableEq for Lx
theorem names_all : ∀ k, k < 50 → lexF (List.replicate (k + 1) 120) = if 20 < k + 1 then Lx.bad true 0 else .toks [⟨1, List.replicate (k + 1) 120, 0⟩, ⟨0, [], k + 1⟩] := by decide +kernel
theorem words_all : ∀ k, k < 28 → lexF keyWords[k]! = .toks [⟨3, keyWords[k]!, 0⟩, ⟨0, [], keyWords[k]!.length⟩] ∧ lexF (keyWords[k]! ++ [120]) = .toks [⟨1, keyWords[k]! ++ [120], 0⟩, ⟨0, [], keyWords[k]!.length + 1⟩] := by decide +kernel

/-- The tokens ts stand in l from the place e on. -/
def Stand (l : List UInt8) : Nat → List Tok → Prop
  | _, [] => False
  | e, t :: ts => t.place = e + gapG false (l.drop e) ∧ t.place + t.text.length ≤ l.length ∧ (l.drop t.place).take t.text.length = t.text ∧
      ((t.kind = 0 ∧ ts = [] ∧ t.place = l.length ∧ t.text = []) ∨ (t.kind ≠ 0 ∧ Stand l (t.place + t.text.length) ts))
theorem pre_toks {a b : List Tok} {r : Lx} (h : Lx.pre a r = .toks b) : ∃ c, r = .toks c ∧ b = a ++ c := by
  cases r with
  | toks c => simp only [Lx.pre, Lx.toks.injEq] at h; exact ⟨c, rfl, h.symm⟩
  | bad b k => simp [Lx.pre] at h
theorem pre_bad {a : List Tok} {r : Lx} {b : Bool} {k : Nat} (h : Lx.pre a r = .bad b k) : r = .bad b k := by
  cases r with
  | toks c => simp [Lx.pre] at h
  | bad b' k' => simpa [Lx.pre] using h
theorem stand_of (l : List UInt8) : ∀ (f e : Nat) (ts : List Tok), e ≤ l.length → lexTo f (l.drop e) e = .toks ts → Stand l e ts := by
  intro f
  induction f with
  | zero => intro e ts _ h; simp [lexTo] at h
  | succ f ih =>
    intro e ts he h
    have hgl := gap_le false (l.drop e)
    rw [List.length_drop] at hgl
    simp only [lexTo] at h
    generalize hg : gapG false (l.drop e) = g at *
    rw [List.drop_drop] at h
    cases hsc : scanF (l.drop (e + g)) with
    | bad b => rw [hsc] at h; cases h
    | tok q n =>
      rw [hsc] at h
      have hs := scan_le _ _ _ hsc
      rw [List.length_drop] at hs
      cases q with
      | zero =>
        simp only [Lx.toks.injEq] at h
        subst h
        have hnil := hs.2.1.1 rfl
        have hl : (l.drop (e + g)).length = 0 := by rw [hnil]; rfl
        rw [List.length_drop] at hl
        refine ⟨by rw [hg], by simp; omega, by simp, .inl ⟨rfl, rfl, by show e + g = _; omega, rfl⟩⟩
      | succ q =>
        obtain ⟨c, hc, rfl⟩ := pre_toks h
        rw [List.drop_drop] at hc
        have hlen : ((l.drop (e + g)).take n).length = n := by rw [List.length_take, List.length_drop]; omega
        have := ih (e + g + n) c (by omega) (by rw [show e + g + n = e + (g + n) by omega]; rw [show e + g + n = e + (g + n) by omega] at hc; exact hc)
        refine ⟨by rw [hg], by simp only [hlen]; omega, by simp only [hlen], .inr ⟨by simp, by simp only [hlen]; exact this⟩⟩
theorem bad_of (l : List UInt8) : ∀ (f e : Nat) (b : Bool) (k : Nat), e ≤ l.length → lexTo f (l.drop e) e = .bad b k → k ≤ l.length := by
  intro f
  induction f with
  | zero => intro e b k _ h; simp only [lexTo, Lx.bad.injEq] at h; omega
  | succ f ih =>
    intro e b k he h
    have hgl := gap_le false (l.drop e)
    rw [List.length_drop] at hgl
    simp only [lexTo] at h
    generalize hg : gapG false (l.drop e) = g at *
    rw [List.drop_drop] at h
    cases hsc : scanF (l.drop (e + g)) with
    | bad b => rw [hsc] at h; simp only [Lx.bad.injEq] at h; omega
    | tok q n =>
      rw [hsc] at h
      have hs := scan_le _ _ _ hsc
      rw [List.length_drop] at hs
      cases q with
      | zero => cases h
      | succ q =>
        have hc := pre_bad h
        rw [List.drop_drop] at hc
        exact ih (e + g + n) b k (by omega) (by rw [show e + g + n = e + (g + n) by omega]; rw [show e + g + n = e + (g + n) by omega] at hc; exact hc)
/-- One byte of what parts two tokens. -/
theorem gap_byte (r : Bool) (l : List UInt8) (k p : Nat) (hk : k < l.length) (h : gapG r (l.drop k) = p - k) (hp : k < p) :
    (((r || decide (l[k].toNat = 35)) && inLineF l[k]) || blankF l[k]) = true ∧ gapG ((r || decide (l[k].toNat = 35)) && inLineF l[k]) (l.drop (k + 1)) = p - (k + 1) := by
  rw [List.drop_eq_getElem_cons hk] at h
  simp only [gapG] at h
  split at h
  · rename_i hc; exact ⟨hc, by omega⟩
  · omega

/-! Two texts with a line's end between. -/
theorem span_app (p : UInt8 → Bool) (hp : p 10 = false) (x y : List UInt8) : spanF p (x ++ 10 :: y) = spanF p x := by
  induction x with
  | nil => simp [spanF, hp]
  | cons c x ih => simp only [List.cons_append, spanF, ih]
theorem take_app {x y : List UInt8} {n : Nat} (h : n ≤ x.length) : (x ++ y).take n = x.take n := by rw [List.take_append_of_le_length h]
theorem drop_app {x y : List UInt8} {n : Nat} (h : n ≤ x.length) : (x ++ y).drop n = x.drop n ++ y := by rw [List.drop_append_of_le_length h]
theorem word_app (x y : List UInt8) : wordF (x ++ 10 :: y) = wordF x := by
  have h := span_app inWordF (by decide) x y
  have hl := span_le inWordF x
  unfold wordF
  rw [h, take_app hl]
theorem numLen_app (x y : List UInt8) : numLen (x ++ 10 :: y) = numLen x := by
  have h := span_app isDigitF (by decide) x y
  have hl := span_le isDigitF x
  unfold numLen
  rw [h, drop_app hl]
  cases hd : x.drop (spanF isDigitF x) with
  | nil => simp
  | cons c z => simp
theorem number_app (x y : List UInt8) : numberF (x ++ 10 :: y) = numberF x := by
  have h := numLen_app x y
  have hl := numLen_le x
  unfold numberF
  rw [h, take_app hl, drop_app hl, span_app inWordF (by decide)]
theorem sign_app (c : UInt8) (x y : List UInt8) : signF (c :: x ++ 10 :: y) = signF (c :: x) := by
  unfold signF
  cases x with
  | nil =>
    have h : ¬ twoSigns.contains [c, 10] = true := by
      simp [twoSigns]
    simp only [List.cons_append, List.nil_append, List.take_succ_cons, List.take_zero, h]
    simp
  | cons d x =>
    simp
theorem scan_app (x y : List UInt8) (h : x ≠ []) : scanF (x ++ 10 :: y) = scanF x := by
  cases x with
  | nil => exact absurd rfl h
  | cons c x =>
    have hw := word_app (c :: x) y
    have hn := number_app (c :: x) y
    have hs := sign_app c x y
    simp only [List.cons_append] at hw hn hs ⊢
    simp only [scanF, hw, hn, hs]
theorem gap_app_lt (r : Bool) (x y : List UInt8) (h : gapG r x < x.length) : gapG r (x ++ 10 :: y) = gapG r x := by
  induction x generalizing r with
  | nil => simp at h
  | cons c x ih =>
    simp only [List.cons_append, gapG] at h ⊢
    split at h
    · rename_i hc; rw [if_pos hc, if_pos hc, ih _ (by simpa using h)]
    · rename_i hc; rw [if_neg hc, if_neg hc]
theorem gap_app_all (r : Bool) (x y : List UInt8) (h : gapG r x = x.length) : gapG r (x ++ 10 :: y) = x.length + 1 + gapG false y := by
  induction x generalizing r with
  | nil => simp [gapG, inLineF, blankF]; omega
  | cons c x ih =>
    simp only [List.cons_append, gapG] at h ⊢
    split at h
    · rename_i hc
      rw [if_pos hc, ih _ (by simpa using h)]
      simp; omega
    · simp at h
theorem lexTo_fuel : ∀ (f f' : Nat) (l : List UInt8) (k : Nat), l.length < f → l.length < f' → lexTo f l k = lexTo f' l k := by
  intro f
  induction f with
  | zero => intro f' l k h; omega
  | succ f ih =>
    intro f' l k h h'
    cases f' with
    | zero => omega
    | succ f' =>
      simp only [lexTo]
      cases hsc : scanF (l.drop (gapG false l)) with
      | bad b => rfl
      | tok q n =>
        cases q with
        | zero => rfl
        | succ q =>
          have hs := scan_le _ _ _ hsc
          have hn := hs.2.2.1 (by omega)
          have hl1 := hs.1
          rw [List.length_drop] at hl1
          dsimp only
          rw [ih f' (l.drop (gapG false l + n)) (k + gapG false l + n) (by rw [List.length_drop]; omega) (by rw [List.length_drop]; omega)]
def Tok.shift (d : Nat) (t : Tok) : Tok := ⟨t.kind, t.text, t.place + d⟩
def Lx.shift (d : Nat) : Lx → Lx
  | .toks ts => .toks (ts.map (Tok.shift d))
  | .bad b k => .bad b (k + d)
theorem shift_pre (d : Nat) (a : List Tok) (r : Lx) : (Lx.pre a r).shift d = Lx.pre (a.map (Tok.shift d)) (r.shift d) := by
  cases r <;> simp [Lx.pre, Lx.shift]
theorem lexTo_shift : ∀ (f : Nat) (l : List UInt8) (k d : Nat), l.length < f → lexTo f l (k + d) = (lexTo f l k).shift d := by
  intro f
  induction f with
  | zero => intro l k d h; omega
  | succ f ih =>
    intro l k d h
    simp only [lexTo]
    cases hsc : scanF (l.drop (gapG false l)) with
    | bad b => simp only [Lx.shift, Lx.bad.injEq, true_and]; omega
    | tok q n =>
      cases q with
      | zero => simp only [Lx.shift, List.map_cons, List.map_nil, Tok.shift, Lx.toks.injEq, List.cons.injEq, Tok.mk.injEq, true_and, and_true]; omega
      | succ q =>
        have hs := scan_le _ _ _ hsc
        have hn := hs.2.2.1 (by omega)
        have hl1 := hs.1
        rw [List.length_drop] at hl1
        simp only [shift_pre, List.map_cons, List.map_nil, Tok.shift]
        rw [show k + d + gapG false l = k + gapG false l + d by omega, show k + gapG false l + d + n = k + gapG false l + n + d by omega, ih _ _ _ (by rw [List.length_drop]; omega)]
def joined (ts : Lx) (r : Lx) : Lx :=
  match ts with
  | .bad b p => .bad b p
  | .toks ts => Lx.pre ts.dropLast r
theorem joined_pre (t : Tok) (x r : Lx) (h : ∀ ts, x = .toks ts → ts ≠ []) : joined (Lx.pre [t] x) r = Lx.pre [t] (joined x r) := by
  cases x with
  | bad b p => rfl
  | toks ts =>
    have hne := h ts rfl
    simp only [Lx.pre, joined, List.cons_append, List.nil_append]
    rw [List.dropLast_cons_of_ne_nil hne]
    cases r <;> simp
theorem lexTo_ne : ∀ (f : Nat) (l : List UInt8) (k : Nat) (ts : List Tok), lexTo f l k = .toks ts → ts ≠ [] := by
  intro f
  cases f with
  | zero => intro l k ts h; simp [lexTo] at h
  | succ f =>
    intro l k ts h
    simp only [lexTo] at h
    cases hsc : scanF (l.drop (gapG false l)) with
    | bad b => rw [hsc] at h; cases h
    | tok q n =>
      rw [hsc] at h
      cases q with
      | zero => simp only [Lx.toks.injEq] at h; subst h; simp
      | succ q =>
        obtain ⟨c, _, rfl⟩ := pre_toks h
        simp
theorem join_lex (y : List UInt8) : ∀ (f : Nat) (x : List UInt8) (k : Nat), x.length < f → lexTo (f + y.length + 1) (x ++ 10 :: y) k = joined (lexTo f x k) (lexTo (y.length + 1) y (k + x.length + 1)) := by
  intro f
  induction f with
  | zero => intro x k h; omega
  | succ f ih =>
    intro x k h
    have hgl := gap_le false x
    by_cases hg : gapG false x = x.length
    · have hga := gap_app_all false x y hg
      have hx : lexTo (f + 1) x k = .toks [⟨0, [], k + x.length⟩] := by
        simp only [lexTo, hg, List.drop_length]; rfl
      rw [hx]
      have h1 : lexTo (f + 1 + y.length + 1) (x ++ 10 :: y) k = lexTo (f + 1 + y.length + 1) y (k + x.length + 1) := by
        have hd : ∀ m, (x ++ 10 :: y).drop (x.length + 1 + m) = y.drop m := by
          intro m
          rw [← List.drop_drop, show x ++ 10 :: y = (x ++ [10]) ++ y by simp, List.drop_left' (by simp)]
        simp only [lexTo, hga, hd]
        rw [show k + (x.length + 1 + gapG false y) = k + x.length + 1 + gapG false y by omega]
        cases scanF (y.drop (gapG false y)) with
        | bad b => rfl
        | tok q n =>
          cases q with
          | zero => rfl
          | succ q =>
            dsimp only
            rw [show x.length + 1 + gapG false y + n = x.length + 1 + (gapG false y + n) by omega, hd]
      rw [h1, lexTo_fuel _ (y.length + 1) y _ (by omega) (by omega)]
      show _ = Lx.pre [] _
      cases lexTo (y.length + 1) y (k + x.length + 1) <;> simp [Lx.pre]
    · have hlt : gapG false x < x.length := by omega
      have hga := gap_app_lt false x y hlt
      have hne : x.drop (gapG false x) ≠ [] := by
        intro e
        have := congrArg List.length e
        rw [List.length_drop] at this; simp at this; omega
      have hsa := scan_app (x.drop (gapG false x)) y hne
      obtain ⟨F, hF⟩ : ∃ F, F = f + y.length + 1 := ⟨_, rfl⟩
      rw [show f + 1 + y.length + 1 = F + 1 by omega]
      rw [← hF] at ih
      generalize hR : lexTo (y.length + 1) y (k + x.length + 1) = R
      simp only [lexTo, hga, drop_app (y := 10 :: y) hgl, hsa]
      cases hsc : scanF (x.drop (gapG false x)) with
      | bad b => rfl
      | tok q n =>
        have hs := scan_le _ _ _ hsc
        have hl1 := hs.1
        cases q with
        | zero => exact absurd (hs.2.1.1 rfl) hne
        | succ q =>
          have hn := hs.2.2.1 (by omega)
          dsimp only
          rw [List.length_drop] at hl1
          rw [take_app hs.1, drop_app (y := 10 :: y) (by omega), joined_pre _ _ _ (fun ts e => lexTo_ne _ _ _ _ e), ih (x.drop (gapG false x + n)) _ (by rw [List.length_drop]; omega)]
          rw [show k + gapG false x + n + (x.drop (gapG false x + n)).length + 1 = k + x.length + 1 by rw [List.length_drop]; omega, hR]
theorem join_lexF (x y : List UInt8) (hx : x.length ≤ 500) (hy : y.length ≤ 500) : lexF (x ++ 10 :: y) = joined (lexF x) ((lexF y).shift (x.length + 1)) := by
  unfold lexF
  rw [if_neg (by simp; omega), if_neg (by omega), if_neg (by omega)]
  have h := join_lex y (x.length + 1) x 0 (by omega)
  rw [show (x ++ 10 :: y).length + 1 = x.length + 1 + y.length + 1 by simp; omega, h, show 0 + x.length + 1 = 0 + (x.length + 1) by omega, lexTo_shift _ _ _ _ (by omega)]
end Go.Proofs.YtoafcpbpnkfhoaaGreatDoor.Lex
