/-
  What stands ahead of a call of the document's answer's parser that reads into a list of nodes (EIn), and behind it (EOut); its steps; inner and expr out of row.
-/
import Derived.Test.YthjnkjekidagiaaRrdC
import Derived.Test.YthjnkjekidagiaaRrdQ
namespace Go.Proofs.Ythjnkjekidagiaa.Rpr
open Go.RowKit
open Lex (Tok isKeyF)
open Prs

structure EIn (B G : Nat) (w : World) (r : Nat) (v : Value) (us : List Tok) (d : Nat) (l : List Ex) : Prop where
  rd : RR B G w r us d
  own : w.ownsRow B 146 7 v l.length (exCells l)
  sz : l.length + us.length ≤ 8193
structure EOut (B G r : Nat) (v : Value) (w w' : World) (v' : Value) (us' : List Tok) (d : Nat) (l' : List Ex) : Prop where
  chg : Chg (fun k => k = r ∨ v.ownBlock = some k) w w'
  at_ : v'.ownBlock = v.ownBlock ∨ ∃ g, v'.ownBlock = some g ∧ w.heap.size ≤ g
  to : EIn B G w' r v' us' d l'
section
variable {B G : Nat} {w w1 w2 w' : World} {r : Nat} {v v1 v2 v' : Value} {us us1 us2 us' : List Tok} {d d' : Nat} {l l1 l2 l' : List Ex}
theorem EIn.base (h : EIn B G w r v us d l) : B ≤ w.heap.size := by have := h.rd.above; have := h.rd.lt; omega
theorem EIn.no (h : EIn B G w r v us d l) {g : Nat} (hg : v.ownBlock = some g) : g ≠ r ∧ g ≠ G := by
  obtain ⟨_, c, hc⟩ := own_at h.own hg
  exact h.rd.apart hc (by decide) (by decide)
theorem own_stay {S : Nat → Prop} {base n size : Nat} {e : TypeId} {xs : List Value} (h : w.ownsRow base e size v n xs) (hc : Chg S w w') (hn : ∀ g, v.ownBlock = some g → ¬ S g) : w'.ownsRow base e size v n xs := by
  refine ⟨h.1, ?_⟩
  rcases h.2 with h2 | ⟨g, cap, c, rfl, h1, h2, h3⟩
  · exact .inl h2
  · exact .inr ⟨g, cap, c, rfl, h1, hc.heap h2 (hn g rfl), h3⟩
/-- The reader goes on by itself. -/
theorem EIn.reader (h : EIn B G w r v us d l) (hc : Chg (fun k => k = r) w w') (hr : RR B G w' r us' d') (hs : us'.length ≤ us.length) : EIn B G w' r v us' d' l :=
  ⟨hr, own_stay h.own hc (fun _ hg => (h.no hg).1), by have := h.sz; omega⟩
theorem EIn.kept (h : EIn B G w r v us d l) (hk : Kept w w') : EIn B G w' r v us d l :=
  h.reader (Chg.of_kept hk) (h.rd.kept hk) (Nat.le_refl _)
theorem EOut.refl (h : EIn B G w r v us d l) : EOut B G r v w w v us d l := ⟨Chg.refl _ _, .inl rfl, h⟩
theorem EOut.of_reader (h : EIn B G w r v us d l) (hc : Chg (fun k => k = r) w w') (hr : RR B G w' r us' d') (hs : us'.length ≤ us.length) : EOut B G r v w w' v us' d' l :=
  ⟨hc.mono fun _ _ e => .inl e, .inl rfl, h.reader hc hr hs⟩
theorem EOut.push {e : Ex} (h : EIn B G w r v us d l) (hp : Pushed B v w l e w' v') (hsz : l.length + 1 + us.length ≤ 8193) : EOut B G r v w w' v' us d (l ++ [e]) :=
  ⟨hp.chg.mono fun _ _ e => .inr e, hp.at_, h.rd.chg hp.chg (fun _ hk => h.no hk), hp.own, by simp; omega⟩
theorem EOut.trans (h : EOut B G r v w w1 v1 us1 d l1) (k : EOut B G r v1 w1 w2 v2 us2 d' l2) : EOut B G r v w w2 v2 us2 d' l2 := by
  refine ⟨h.chg.trans k.chg fun i hi hs => ?_, ?_, k.to⟩
  · rcases hs with hs | hs
    · exact .inl hs
    · rcases h.at_ with e | ⟨g, e, hg⟩
      · exact .inr (e ▸ hs)
      · rw [e] at hs; injection hs with hs; omega
  · rcases k.at_ with e | ⟨g, e, hg⟩
    · rcases h.at_ with e' | h'
      · exact .inl (e.trans e')
      · exact .inr (e ▸ h')
    · exact .inr ⟨g, e, Nat.le_trans h.chg.size hg⟩
/-- What was there ahead stays, if neither the reader's nor the list's. -/
theorem EOut.heap (h : EOut B G r v w w' v' us' d l') {k : Nat} {c : Array Value} {t : TypeId} (hi : EIn B G w r v us d' l) (hk : w.heap[k]? = some (.cells c t (0, 0))) (h1 : t ≠ 80) (h2 : t ≠ 146) : w'.heap[k]? = some (.cells c t (0, 0)) := by
  refine h.chg.heap hk fun hs => ?_
  rcases hs with rfl | hs
  · obtain ⟨n, cap, p, cur, e1, _⟩ := hi.rd.lie
    exact ne_of_ty hk e1 h1 rfl
  · obtain ⟨_, c', hc'⟩ := own_at hi.own hs
    exact ne_of_ty hk hc' h2 rfl
end

def RowSaid (f : Nat) : Prop := ∀ {B G r d lvl : Nat} {v : Value} {us us' : List Tok} {l l' : List Ex} (w : World), lvl ≤ 4 → EIn B G w r v us d l → chainF f lvl us d none l = .ok us' none l' →
  Calls Try.prog 77 #[.pointer (some ⟨r, 0, none⟩), v, .int .i64 lvl] w fun e w' => ∃ v', e = .returned v' ∧ Hid (EOut B G r v w w' v' us' d l')
def UnarySaid (f : Nat) : Prop := ∀ {B G r d : Nat} {v : Value} {us us' : List Tok} {l l' : List Ex} (w : World), EIn B G w r v us d l → unaryF f us d none l = .ok us' none l' →
  Calls Try.prog 81 #[.pointer (some ⟨r, 0, none⟩), v] w fun e w' => ∃ v', e = .returned v' ∧ Hid (EOut B G r v w w' v' us' d l')
def InnerSaid (f : Nat) : Prop := ∀ {B G r d : Nat} {v : Value} {us us' : List Tok} {l l' : List Ex} {o c : List UInt8} (w : World), isSg o = true → isSg c = true → EIn B G w r v us d l → bracketF f o c us d none l = .ok us' none l' →
  Calls Try.prog 92 #[.pointer (some ⟨r, 0, none⟩), v, .string ⟨o.toArray⟩, .string ⟨c.toArray⟩] w fun e w' => ∃ v', e = .returned v' ∧ Hid (EOut B G r v w w' v' us' d l')

theorem expr_of {f : Nat} (H : RowSaid f) {B G r d : Nat} {v : Value} {us us' : List Tok} {l l' : List Ex} (w : World) (h : EIn B G w r v us d l) (hf : chainF f 0 us d none l = .ok us' none l') :
    Calls Try.prog 71 #[.pointer (some ⟨r, 0, none⟩), v] w fun e w' => ∃ v', e = .returned v' ∧ Hid (EOut B G r v w w' v' us' d l') := by
  have HR := Lib.hid (H (lvl := 0) w (by omega) h hf)
  clear h hf H
  go_enter Try.func71, Try.ntmps71
  go_wp2_with (first | (go_at_call 77; refine HR.out.mono ?_; rintro e w1 ⟨v1, rfl, H1⟩))
  go_ret
  exact ⟨_, rfl, H1⟩
set_option maxHeartbeats 1000000 in
theorem inner_step {f : Nat} (H : RowSaid f) : InnerSaid (f + 1) := by
  intro B G r d v us us' l l' o c w ho hc h hf
  simp only [bracketF] at hf
  obtain ⟨u1, d1, a1, e1, g1⟩ := bind_ok hf
  obtain ⟨t, ht0, ht, hd1⟩ := open_ok e1
  subst ht0
  obtain ⟨u2, d2, l2, e2, g2⟩ := bind_ok g1
  obtain ⟨u3, d3, a3, e3, g3⟩ := bind_ok g2
  obtain ⟨hd3, t3, hu3, ht3, -⟩ := take_ok e3
  injection g3 with f1 f2 f3
  subst hu3; subst f1; subst f3
  rw [f2] at hd3
  subst hd3
  have hd1' : d1 = none := none_of_none (fun k hk => by subst hk; exact (stays f).chain _ _ _ _ _ _ _ _ e2) rfl
  subst hd1'
  have h30 := dpF_none hd1.symm
  have HO := Lib.hid (open_yes w h.rd (.inr ho) ht h30)
  have HX : Hid (∀ w1, Chg (fun k => k = r) w w1 → RR B G w1 r u1 (d + 1) → Calls Try.prog 71 #[.pointer (some ⟨r, 0, none⟩), v] w1 fun e w' => ∃ v', e = .returned v' ∧ Hid (EOut B G r v w1 w' v' (t3 :: u3) (d + 1) l2)) := Lib.hid fun w1 hc1 hr1 => expr_of H w1 (h.reader hc1 hr1 (by simp)) e2
  have HI := Lib.hid h
  have hgr := ((grows f).chain _ _ _ _ _ _ _ _ e2).2
  clear h H e1 e2 e3 hf g1 g2 hd1
  go_enter Try.func92, Try.ntmps92
  go_wp2_with (first | (go_at_call 70; refine HO.out.mono ?_; rintro e w1 ⟨rfl, H1⟩) | (go_at_call 71; refine (HX.out _ H1.out.1 H1.out.2).mono ?_; rintro e w2 ⟨v2, rfl, H2⟩) | (go_at_call 52; refine (want_yes w2 H2.out.to.rd (.inr hc) ht3).mono ?_; rintro e w3 ⟨rfl, H3⟩; obtain ⟨d3, g3, l3⟩ := H3.out.2.deep_cell))
  have hx := H3.out.2.dive d (by have := H3.out.2.deep; omega)
  go_ret
  exact ⟨_, rfl, Lib.hid (((EOut.of_reader HI.out H1.out.1 H1.out.2 (by simp)).trans H2.out).trans (EOut.of_reader H2.out.to (H3.out.1.then hx.2) hx.1 (by simp)))⟩
end Go.Proofs.Ythjnkjekidagiaa.Rpr
