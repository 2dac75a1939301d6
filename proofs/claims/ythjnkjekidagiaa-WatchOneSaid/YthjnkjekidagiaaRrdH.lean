/-
  Conditions of the document's answer's parser in memory: CnCells, an append of one (wpList_pushC), what stands ahead of a call that reads into a list of conditions (CIn) and behind it (COut); the reader's small methods along COut; rel.
-/
import Derived.Test.YthjnkjekidagiaaRrdI
import Derived.Test.YthjnkjekidagiaaRrdR
namespace Go.Proofs.Ythjnkjekidagiaa.Rpr
open Go.RowKit
open Lex (Tok isKeyF)
open Prs

def cnCell (c : Cn) (x y : Value) : List Value := [.int .i64 c.kind, .int .i64 c.rel, x, y, .int .i64 c.a, .int .i64 c.b, .int .i64 c.place]
/-- The cells xs are those of the conditions l; each has its two lists. -/
def CnCells (w : World) (B : Nat) : List Cn → List Value → Prop
  | [], xs => xs = []
  | c :: l, xs => ∃ x y rest, xs = cnCell c x y ++ rest ∧ w.ownsRow B 146 7 x c.x.length (exCells c.x) ∧ w.ownsRow B 146 7 y c.y.length (exCells c.y) ∧ CnCells w B l rest
def NoEx (w : World) (S : Nat → Prop) : Prop := ∀ g c, w.heap[g]? = some (.cells c 146 (0, 0)) → ¬ S g
theorem own_chg {S : Nat → Prop} {w w' : World} {B n : Nat} {v : Value} {xs : List Value} (h : w.ownsRow B 146 7 v n xs) (hc : Chg S w w') (hn : NoEx w S) : w'.ownsRow B 146 7 v n xs :=
  own_stay h hc fun g hg => by obtain ⟨_, c, hc⟩ := own_at h hg; exact hn g c hc
theorem CnCells.chg {S : Nat → Prop} {w w' : World} {B : Nat} {l : List Cn} {xs : List Value} (h : CnCells w B l xs) (hc : Chg S w w') (hn : NoEx w S) : CnCells w' B l xs := by
  induction l generalizing xs with
  | nil => exact h
  | cons c l ih =>
    obtain ⟨x, y, rest, e, h1, h2, h3⟩ := h
    exact ⟨x, y, rest, e, own_chg h1 hc hn, own_chg h2 hc hn, ih h3⟩
theorem CnCells.snoc {w : World} {B : Nat} {l : List Cn} {xs : List Value} (h : CnCells w B l xs) (c : Cn) {x y : Value} (hx : w.ownsRow B 146 7 x c.x.length (exCells c.x)) (hy : w.ownsRow B 146 7 y c.y.length (exCells c.y)) :
    CnCells w B (l ++ [c]) (xs ++ cnCell c x y) := by
  induction l generalizing xs with
  | nil => obtain rfl : xs = [] := h; exact ⟨x, y, [], by simp, hx, hy, rfl⟩
  | cons c' l ih =>
    obtain ⟨x', y', rest, e, h1, h2, h3⟩ := h
    subst e
    exact ⟨x', y', _, by simp, h1, h2, ih h3⟩
theorem CnCells.len {w : World} {B : Nat} {l : List Cn} {xs : List Value} (h : CnCells w B l xs) : xs.length = 7 * l.length := by
  induction l generalizing xs with
  | nil => obtain rfl : xs = [] := h; rfl
  | cons c l ih =>
    obtain ⟨x, y, rest, e, _, _, h3⟩ := h
    have := ih h3
    subst e; simp [cnCell]; omega
theorem cn_info : (Try.prog.info? 101).map (fun i => (i.zero, i.size, i.bytes)) = some (some (.agg #[.int .i64 0, .int .i64 0, .slice none 0 0, .slice none 0 0, .int .i64 0, .int .i64 0, .int .i64 0]), 7, 88) := by kernel_rfl

/-- A list of conditions has got one more. -/
structure PushedC (B : Nat) (v : Value) (w : World) (l : List Cn) (c : Cn) (w' : World) (v' : Value) : Prop where
  chg : Chg (fun k => v.ownBlock = some k) w w'
  at_ : v'.ownBlock = v.ownBlock ∨ ∃ g, v'.ownBlock = some g ∧ w.heap.size ≤ g
  own : ∃ xs, w'.ownsRow B 101 7 v' (l ++ [c]).length xs ∧ CnCells w' B (l ++ [c]) xs
theorem wpList_pushC {ops : Array Oper} {rest : List Oper} {o : Oper} {a : Act} {Q : Exit → Act → World → Prop} (hgd : o.guard = none) (s x : Operand)
    (ho : o.op = .call { callee := .builtin .append, args := #[s, x], argTypes := #[39, 39] }) {B : Nat} {v : Value} {l : List Cn} {xs : List Value} (c : Cn) (vx vy : Value) (cs : Array Value) (w : World) (hown : w.ownsRow B 101 7 v l.length xs) (hcc : CnCells w B l xs)
    (hvx : w.ownsRow B 146 7 vx c.x.length (exCells c.x)) (hvy : w.ownsRow B 146 7 vy c.y.length (exCells c.y)) (hB : B ≤ w.heap.size) (hl : l.length ≤ 8193) (hs : a.eval s = v) (hx : a.eval x = .slice (some ⟨w.heap.size, 0, none⟩) 1 1) (hc : cs.toList = cnCell c vx vy)
    (h : ∀ v' w', Hid (PushedC B v w l c w' v') → wpList Try.prog ops Q rest (a.put o.dst v') w') : wpList Try.prog ops Q (o :: rest) a (w.alloc (.cells cs 101)) := by
  obtain ⟨i0, hi0, hz0, hz1, hz2⟩ := info_parts cn_info
  have hlen := hcc.len
  obtain ⟨ax, cx, ex⟩ := own_form hvx
  obtain ⟨ay, cy, ey⟩ := own_form hvy
  refine wpList_append_lies _ hgd s x 39 ho B 101 i0 _ 7 88 Try.underlying39 hi0 hz0 hz1 hz2 rfl (by omega) v l.length xs hs (hown.alloc _) ⟨w.heap.size, 0, none⟩ 1 1 (cnCell c vx vy) hx rfl ?_ ?_ (by omega) (by simp only [maxLen]; omega) (by omega) (by simp; omega) (w.heap.size + 1) (by simp) ?_
  · rw [← hc]; exact World.news_of_block (heap_alloc_new w _)
  · simp [cnCell, Value.oneCell', ex, ey]
  · intro g cap w7 hown' hgrow hat hlt
    have hch : Chg (fun k => v.ownBlock = some k) w w7 := ((Chg.refl _ w).alloc _).grown hgrow (fun _ _ h => h)
    have hno : NoEx w (fun k => v.ownBlock = some k) := fun g2 c2 hc2 hs2 => by
      obtain ⟨_, c3, hc3⟩ := own_at hown hs2
      exact ne_of_ty hc2 hc3 (by decide) rfl
    refine h _ _ (Lib.hid ⟨hch, ?_, _, by rw [List.length_append]; exact hown', (hcc.chg hch hno).snoc c (own_chg hvx hch hno) (own_chg hvy hch hno)⟩)
    rcases hat with h | h
    · exact .inl h.symm
    · exact .inr ⟨g, rfl, by omega⟩

structure CIn (B G : Nat) (w : World) (r : Nat) (v : Value) (us : List Tok) (d : Nat) (l : List Cn) : Prop where
  rd : RR B G w r us d
  own : ∃ xs, w.ownsRow B 101 7 v l.length xs ∧ CnCells w B l xs
  sz : l.length + us.length ≤ 8193
/-- Along the way: X are lists of nodes that were read besides. -/
structure COut (B G r : Nat) (v : Value) (w w' : World) (v' : Value) (us' : List Tok) (d : Nat) (l' : List Cn) (X : List (Value × List Ex)) : Prop where
  chg : Chg (fun k => k = r ∨ v.ownBlock = some k) w w'
  at_ : v'.ownBlock = v.ownBlock ∨ ∃ g, v'.ownBlock = some g ∧ w.heap.size ≤ g
  to : CIn B G w' r v' us' d l'
  rows : ∀ p ∈ X, w'.ownsRow B 146 7 p.1 p.2.length (exCells p.2)
section
variable {B G : Nat} {w w1 w2 w' : World} {r : Nat} {v v1 v2 v' : Value} {us us1 us2 us' : List Tok} {d d' d1 : Nat} {l l1 l2 l' : List Cn} {X : List (Value × List Ex)}
theorem CIn.base (h : CIn B G w r v us d l) : B ≤ w.heap.size := by have := h.rd.above; have := h.rd.lt; omega
theorem CIn.form (h : CIn B G w r v us d l) : ∃ a c, v = .slice a l.length c := by obtain ⟨xs, h1, _⟩ := h.own; exact own_form h1
theorem CIn.at_ (h : CIn B G w r v us d l) {g : Nat} (hg : v.ownBlock = some g) : B ≤ g ∧ ∃ c, w.heap[g]? = some (.cells c 101 (0, 0)) := by
  obtain ⟨xs, h1, _⟩ := h.own
  exact own_at h1 hg
theorem CIn.no (h : CIn B G w r v us d l) {g : Nat} (hg : v.ownBlock = some g) : g ≠ r ∧ g ≠ G := by
  obtain ⟨_, c, hc⟩ := h.at_ hg
  exact h.rd.apart hc (by decide) (by decide)
theorem CIn.noEx (h : CIn B G w r v us d l) : NoEx w (fun k => k = r ∨ v.ownBlock = some k) := fun g c hc hs => by
  rcases hs with rfl | hs
  · exact (h.rd.apart hc (by decide) (by decide)).1 rfl
  · obtain ⟨_, c3, hc3⟩ := h.at_ hs
    exact ne_of_ty hc hc3 (by decide) rfl
theorem CIn.reader (h : CIn B G w r v us d l) (hc : Chg (fun k => k = r) w w') (hr : RR B G w' r us' d') (hs : us'.length ≤ us.length) : CIn B G w' r v us' d' l := by
  obtain ⟨xs, h1, h2⟩ := h.own
  exact ⟨hr, ⟨xs, own_stay h1 hc (fun _ hg => (h.no hg).1), h2.chg hc fun g c hc hs => h.noEx g c hc (.inl hs)⟩, by have := h.sz; omega⟩
theorem CIn.kept (h : CIn B G w r v us d l) (hk : Kept w w') : CIn B G w' r v us d l := h.reader (Chg.of_kept hk) (h.rd.kept hk) (Nat.le_refl _)
theorem COut.refl (h : CIn B G w r v us d l) : COut B G r v w w v us d l [] := ⟨Chg.refl _ _, .inl rfl, h, by simp⟩
theorem COut.reader (h : COut B G r v w w1 v1 us1 d1 l1 X) (hc : Chg (fun k => k = r) w1 w') (hr : RR B G w' r us' d') (hs : us'.length ≤ us1.length) : COut B G r v w w' v1 us' d' l1 X :=
  ⟨h.chg.trans hc fun _ _ e => .inl e, h.at_, h.to.reader hc hr hs, fun p hp => own_chg (h.rows p hp) hc fun g c hc hs => h.to.noEx g c hc (.inl hs)⟩
theorem COut.kept (h : COut B G r v w w1 v1 us1 d1 l1 X) (hk : Kept w1 w') : COut B G r v w w' v1 us1 d1 l1 X := h.reader (Chg.of_kept hk) (h.to.rd.kept hk) (Nat.le_refl _)
theorem COut.trans {Y : List (Value × List Ex)} (h : COut B G r v w w1 v1 us1 d1 l1 X) (k : COut B G r v1 w1 w2 v2 us2 d' l2 Y) : COut B G r v w w2 v2 us2 d' l2 X := by
  refine ⟨h.chg.trans k.chg fun i hi hs => ?_, ?_, k.to, fun p hp => own_chg (h.rows p hp) k.chg h.to.noEx⟩
  · rcases hs with hs | hs
    · exact .inl hs
    · rcases h.at_ with e | ⟨g, e, hg⟩
      · exact .inr (e ▸ hs)
      · rw [e] at hs; injection hs with hs; omega
  · rcases k.at_ with e | ⟨g, e, hg⟩
    · rcases h.at_ with e' | h'
      · exact .inl (e.trans e')
      · exact .inr (e ▸ h')
    · exact .inr ⟨g, e, Nat.le_trans h.chg.size hg⟩
theorem COut.push {c : Cn} (h : COut B G r v w w1 v1 us1 d1 l1 X) (hp : PushedC B v1 w1 l1 c w' v') (hsz : l1.length + 1 + us1.length ≤ 8193) : COut B G r v w w' v' us1 d1 (l1 ++ [c]) [] :=
  h.trans (Y := []) ⟨hp.chg.mono fun _ _ e => .inr e, hp.at_, ⟨h.to.rd.chg hp.chg (fun _ hk => h.to.no hk), hp.own, by simp; omega⟩, by simp⟩ |> fun k => ⟨k.chg, k.at_, k.to, by simp⟩
theorem COut.drop (h : COut B G r v w w1 v1 us1 d1 l1 X) : COut B G r v w w1 v1 us1 d1 l1 [] := ⟨h.chg, h.at_, h.to, by simp⟩
/-- A list of nodes is read besides. -/
theorem COut.expr {lx : List Ex} {vx : Value} (h : COut B G r v w w1 v1 us1 d1 l1 X) (k : EOut B G r (.slice none 0 0) w1 w' vx us' d1 lx) (hs : us'.length ≤ us1.length) : COut B G r v w w' v1 us' d1 l1 ((vx, lx) :: X) := by
  have hc : Chg (fun k => k = r) w1 w' := k.chg.mono fun i _ hs => by
    rcases hs with hs | hs
    · exact hs
    · simp [Value.ownBlock] at hs
  have h2 := h.reader hc k.to.rd hs
  refine ⟨h2.chg, h2.at_, h2.to, fun p hp => ?_⟩
  rcases List.mem_cons.1 hp with rfl | hp
  · exact k.to.own
  · exact h2.rows p hp
end

section
variable {B G : Nat} {w wc : World} {r : Nat} {v v1 : Value} {t : Tok} {us : List Tok} {d : Nat} {l : List Cn} {X : List (Value × List Ex)} {s : List UInt8}
theorem c_here (h : COut B G r v w wc v1 (t :: us) d l X) : Calls Try.prog 51 #[.pointer (some ⟨r, 0, none⟩)] wc fun e w' => e = .returned (.int .i64 t.place) ∧ Hid (COut B G r v w w' v1 (t :: us) d l X) :=
  (here_any wc h.to.rd).mono fun _ _ ⟨h1, h2⟩ => ⟨h1, Lib.hid (h.kept h2)⟩
theorem c_is_no (h : COut B G r v w wc v1 (t :: us) d l X) (hs : isKeyF s = true ∨ isSg s = true) (ht : t.text ≠ s) : Calls Try.prog 50 #[.pointer (some ⟨r, 0, none⟩), .string ⟨s.toArray⟩] wc fun e w' => e = .returned (.bool false) ∧ Hid (COut B G r v w w' v1 (t :: us) d l X) :=
  (is_no wc h.to.rd hs ht).mono fun _ _ ⟨h1, h2⟩ => ⟨h1, Lib.hid (h.kept h2)⟩
theorem c_is_yes (h : COut B G r v w wc v1 (t :: us) d l X) (hs : isKeyF s = true ∨ isSg s = true) (ht : t.text = s) : Calls Try.prog 50 #[.pointer (some ⟨r, 0, none⟩), .string ⟨s.toArray⟩] wc fun e w' => e = .returned (.bool true) ∧ Hid (COut B G r v w w' v1 (t :: us) d l X) :=
  (is_yes wc h.to.rd hs ht).mono fun _ _ ⟨h1, h2⟩ => ⟨h1, Lib.hid (h.kept h2)⟩
theorem c_open (h : COut B G r v w wc v1 (t :: us) d l X) (hs : isKeyF s = true ∨ isSg s = true) (ht : t.text = s) (hd : d < 30) : Calls Try.prog 70 #[.pointer (some ⟨r, 0, none⟩), .string ⟨s.toArray⟩] wc fun e w' => e = .returned (.tuple #[]) ∧ Hid (COut B G r v w w' v1 us (d + 1) l X) :=
  (open_yes wc h.to.rd hs ht hd).mono fun _ _ ⟨h1, h2⟩ => ⟨h1, Lib.hid (h.reader h2.out.1 h2.out.2 (by simp))⟩
theorem c_want (h : COut B G r v w wc v1 (t :: us) d l X) (hs : isKeyF s = true ∨ isSg s = true) (ht : t.text = s) : Calls Try.prog 52 #[.pointer (some ⟨r, 0, none⟩), .string ⟨s.toArray⟩] wc fun e w' => e = .returned (.tuple #[]) ∧ Hid (COut B G r v w w' v1 us d l X) :=
  (want_yes wc h.to.rd hs ht).mono fun _ _ ⟨h1, h2⟩ => ⟨h1, Lib.hid (h.reader h2.out.1 h2.out.2 (by simp))⟩
theorem COut.next {p : Nat} (h : COut B G r v w wc v1 (t :: us) d l X) (hp : wc.cell? ⟨r, 1, none⟩ = some (.int .i64 (p : Nat))) : COut B G r v w (wc.setCell ⟨r, 1, none⟩ (.int .i64 ((p : Int) + 1))) v1 us d l X :=
  have hx := h.to.rd.next hp
  h.reader hx.2 hx.1 (by simp)
theorem COut.dive (d' : Nat) (h : COut B G r v w wc v1 us d l X) (hd : d' ≤ 10000) : COut B G r v w (wc.setCell ⟨r, 2, none⟩ (.int .i64 d')) v1 us d' l X :=
  have hx := h.to.rd.dive d' hd
  h.reader hx.2 hx.1 (Nat.le_refl _)
theorem c_expr {f : Nat} {us' : List Tok} {lx : List Ex} (HR : RowSaid f) (h : COut B G r v w wc v1 us d l X) (hf : chainF f 0 us d none [] = .ok us' none lx) (hus : us.length ≤ 8193) : Calls Try.prog 71 #[.pointer (some ⟨r, 0, none⟩), .slice none 0 0] wc fun e w' => ∃ vx, e = .returned vx ∧ Hid (COut B G r v w w' v1 us' d l ((vx, lx) :: X)) := by
  have h0 : EIn B G wc r (.slice none 0 0) us d [] := ⟨h.to.rd, World.ownsRow_nil _ _ _ _, by simpa using hus⟩
  have hg := ((grows f).chain _ _ _ _ _ _ _ _ hf).2.2
  exact (expr_of HR wc h0 hf).mono fun _ _ ⟨vx, h1, h2⟩ => ⟨vx, h1, Lib.hid (h.expr h2.out hg)⟩
end

def OneSaid (f : Nat) : Prop := ∀ {B G r d : Nat} {v v0 : Value} {us us' : List Tok} {l l' : List Cn} {X : List (Value × List Ex)} (w0 w : World), COut B G r v0 w0 w v us d l X → oneF f us d none l = .ok us' none l' →
  Calls Try.prog 63 #[.pointer (some ⟨r, 0, none⟩), v] w fun e w' => ∃ v', e = .returned v' ∧ Hid (COut B G r v0 w0 w' v' us' d l' [])
def BothSaid (f : Nat) : Prop := ∀ {B G r d : Nat} {v v0 : Value} {us us' : List Tok} {l l' : List Cn} {X : List (Value × List Ex)} (w0 w : World), COut B G r v0 w0 w v us d l X → bothF f us d none l = .ok us' none l' →
  Calls Try.prog 49 #[.pointer (some ⟨r, 0, none⟩), v] w fun e w' => ∃ v', e = .returned v' ∧ Hid (COut B G r v0 w0 w' v' us' d l' [])
def EitherSaid (f : Nat) : Prop := ∀ {B G r d : Nat} {v v0 : Value} {us us' : List Tok} {l l' : List Cn} {X : List (Value × List Ex)} (w0 w : World), COut B G r v0 w0 w v us d l X → eitherF f us d none l = .ok us' none l' →
  Calls Try.prog 31 #[.pointer (some ⟨r, 0, none⟩), v] w fun e w' => ∃ v', e = .returned v' ∧ Hid (COut B G r v0 w0 w' v' us' d l' [])

def relT : Nat → List UInt8
  | 1 => [61, 61] | 2 => [33, 61] | 3 => [60] | 4 => [60, 61] | 5 => [62] | 6 => [62, 61] | _ => []
theorem rel_at (k : Nat) (h1 : 1 ≤ k) (h6 : k ≤ 6) : relF (relT k) = k := by
  rcases (show k = 1 ∨ k = 2 ∨ k = 3 ∨ k = 4 ∨ k = 5 ∨ k = 6 by omega) with rfl | rfl | rfl | rfl | rfl | rfl <;> rfl
theorem rel_none {s : List UInt8} (h : ∀ j, 1 ≤ j → j < 7 → relT j ≠ s) : relF s = 0 := by
  unfold relF
  have h1 := h 1 (by omega) (by omega)
  have h2 := h 2 (by omega) (by omega)
  have h3 := h 3 (by omega) (by omega)
  have h4 := h 4 (by omega) (by omega)
  have h5 := h 5 (by omega) (by omega)
  have h6 := h 6 (by omega) (by omega)
  simp only [relT] at h1 h2 h3 h4 h5 h6
  rw [if_neg (Ne.symm h1), if_neg (Ne.symm h2), if_neg (Ne.symm h3), if_neg (Ne.symm h4), if_neg (Ne.symm h5), if_neg (Ne.symm h6)]
theorem rel_sg {s : List UInt8} (h : relF s ≠ 0) : isSg s = true ∧ relF s ≤ 6 := by
  unfold relF at h ⊢
  repeat' split at h
  all_goals first | (rename_i e; subst e; decide) | exact absurd rfl h
end Go.Proofs.Ythjnkjekidagiaa.Rpr
