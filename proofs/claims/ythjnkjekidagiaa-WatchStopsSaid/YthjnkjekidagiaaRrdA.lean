/-
  The reader of the document's answer's parser in memory, where all goes well (RR), and the contracts of its small methods (here, is, take, want, open, name, num, typ).
-/
import Derived.Test.YthjnkjekidagiaaRlxL
import Derived.Test.YthjnkjekidagiaaPrsP
import Derived.RegionTactic
import Derived.ChangeAlike
import Derived.Deep.QuietTactic
import Derived.BigQuiet
import Derived.WalkLawsBesides
namespace Go.Proofs.Ythjnkjekidagiaa.Rpr
open Go.RowKit
open Lex (Tok isKeyF twoSigns oneSigns)

/-- Nothing but the blocks of S has changed; no block has gone. -/
structure Chg (S : Nat → Prop) (w w' : World) : Prop where
  os : w'.os = w.os
  tape : w'.tape = w.tape
  output : w'.output = w.output
  size : w.heap.size ≤ w'.heap.size
  block : ∀ k, k < w.heap.size → ¬ S k → w'.heap[k]? = w.heap[k]?
theorem Chg.refl (S : Nat → Prop) (w : World) : Chg S w w := ⟨rfl, rfl, rfl, Nat.le_refl _, fun _ _ _ => rfl⟩
theorem Chg.trans {S T : Nat → Prop} {a b c : World} (h : Chg S a b) (k : Chg T b c) (hs : ∀ i, i < a.heap.size → T i → S i) : Chg S a c :=
  ⟨k.os.trans h.os, k.tape.trans h.tape, k.output.trans h.output, Nat.le_trans h.size k.size, fun i hi hn => (k.block i (Nat.lt_of_lt_of_le hi h.size) (fun ht => hn (hs i hi ht))).trans (h.block i hi hn)⟩
theorem Chg.then {S : Nat → Prop} {a b c : World} (h : Chg S a b) (k : Chg S b c) : Chg S a c := h.trans k fun _ _ h => h
theorem Chg.mono {S T : Nat → Prop} {a b : World} (h : Chg S a b) (hs : ∀ i, i < a.heap.size → S i → T i) : Chg T a b :=
  ⟨h.os, h.tape, h.output, h.size, fun i hi hn => h.block i hi (fun k => hn (hs i hi k))⟩
theorem Chg.of_kept {S : Nat → Prop} {a b : World} (h : Kept a b) : Chg S a b := ⟨h.os, h.tape, h.output, h.size, fun i hi _ => h.block i hi⟩
theorem Chg.kept {S : Nat → Prop} {a b : World} (h : Chg S a b) (hs : ∀ i, i < a.heap.size → ¬ S i) : Kept a b := ⟨h.os, h.tape, h.output, h.size, fun i hi => h.block i hi (hs i hi)⟩
theorem Chg.keep {S : Nat → Prop} {a b c : World} (h : Chg S a b) (k : Kept b c) : Chg S a c := h.then (Chg.of_kept k)
theorem Chg.drew {S : Nat → Prop} {a b : World} (h : Chg S a b) : Chg S a b.drew := ⟨h.os, h.tape, h.output, h.size, h.block⟩
theorem Chg.drewN {S : Nat → Prop} {a b : World} (h : Chg S a b) (n : Nat) : Chg S a (b.drewN n) := ⟨h.os, h.tape, h.output, h.size, h.block⟩
theorem Chg.alloc {S : Nat → Prop} {a b : World} (h : Chg S a b) (o : Obj) : Chg S a (b.alloc o) := h.keep ((Kept.refl b).alloc o)
theorem Chg.setCell {S : Nat → Prop} {a b : World} (h : Chg S a b) {p : Addr} (hp : p.block < a.heap.size → S p.block) (u : Value) : Chg S a (b.setCell p u) :=
  h.trans (T := fun k => k = p.block) ⟨rfl, rfl, rfl, by simp [World.setCell], fun k _ hk => Below.heap_setCell _ _ _ _ hk⟩ fun i hi e => by subst e; exact hp hi
theorem Chg.grown {S : Nat → Prop} {a b c : World} {row : Option Nat} (h : Chg S a b) (hg : b.grownBy c row) (hr : ∀ k, k < a.heap.size → row = some k → S k) : Chg S a c :=
  h.trans (T := fun k => row = some k) ⟨hg.os, hg.tape, hg.output, hg.size, fun k hk hn => hg.block k hk (fun e => hn e.symm)⟩ hr
theorem Chg.heap {S : Nat → Prop} {a b : World} (h : Chg S a b) {k : Nat} {o : Obj} (hk : a.heap[k]? = some o) (hn : ¬ S k) : b.heap[k]? = some o :=
  (h.block k (Array.getElem?_eq_some_iff.1 hk).1 hn).trans hk
theorem ne_of_ty {w : World} {a b : Nat} {c c' : Array Value} {t t' : TypeId} {z z' : Nat × Nat} (h : w.heap[a]? = some (.cells c t z)) (h' : w.heap[b]? = some (.cells c' t' z')) (hn : t ≠ t') : a ≠ b := by
  intro e; subst e; rw [h] at h'; injection h' with h'; injection h' with _ h'; exact hn h'

theorem box_cell {w : World} {b : Nat} {cs : Array Value} {t : TypeId} (h : w.heap[b]? = some (.cells cs t (0, 0))) (o : Nat) (u : Value) (hu : cs[o]? = some u) : w.cell? ⟨b, o, none⟩ = some u := by simpa [World.cell?, h] using hu
theorem box_froz {w : World} {b : Nat} {cs : Array Value} {t : TypeId} (h : w.heap[b]? = some (.cells cs t (0, 0))) (o : Nat) : w.frozen? ⟨b, o, none⟩ = false := by simp [World.frozen?, h]

/-- A text that is a sign. -/
def isSg (l : List UInt8) : Bool := twoSigns.contains l || match l with | [c] => oneSigns.contains c | _ => false
/-- A token as the lexer makes it: of kind 3 just where its text is a key word, of kind 4 where it is a sign; a number's text reads as one. -/
def Good (t : Tok) : Prop := t.text.length ≤ 8192 ∧ t.place ≤ 8192 ∧ t.kind ≤ 4 ∧ ((t.kind = 3 ∧ isKeyF t.text = true) ∨ (t.kind = 4 ∧ isSg t.text = true) ∨ (t.kind ≠ 3 ∧ t.kind ≠ 4 ∧ isKeyF t.text = false ∧ isSg t.text = false)) ∧ (t.kind = 2 → ∃ v u, Lex.readF t.text = .ok v u)
def rrCells (G n cap p d : Nat) : Array Value := #[.slice (some ⟨G, 0, none⟩) n cap, .int .i64 p, .int .i64 d, .int .i64 0, .int .i64 0]

/-- The reader lies in block r, us is what is left of its tokens, d how deep it is; no error so far. Nothing below B is its own. -/
structure RR (B G : Nat) (w : World) (r : Nat) (us : List Tok) (d : Nat) : Prop where
  lie : ∃ n cap p cur, w.heap[r]? = some (.cells (rrCells G n cap p d) 80 (0, 0)) ∧ w.heap[G]? = some (.cells cur 83 (0, 0)) ∧ p + us.length = n ∧ n ≤ cap ∧ cap ≤ maxLen ∧ n ≤ 8193 ∧
    ∀ i (hi : i < us.length), cur[(p + i) * 3]? = some (.int .i64 us[i].kind) ∧ cur[(p + i) * 3 + 1]? = some (.string ⟨us[i].text.toArray⟩) ∧ cur[(p + i) * 3 + 2]? = some (.int .i64 us[i].place)
  above : B ≤ r
  deep : d ≤ 10000
  good : ∀ t ∈ us, Good t
theorem RR.lt {B G : Nat} {w : World} {r : Nat} {us : List Tok} {d : Nat} (h : RR B G w r us d) : r < w.heap.size := by
  obtain ⟨n, cap, p, cur, h1, _⟩ := h.lie
  exact (Array.getElem?_eq_some_iff.1 h1).1
theorem RR.chg {B G : Nat} {w w' : World} {r : Nat} {us : List Tok} {d : Nat} {S : Nat → Prop} (h : RR B G w r us d) (hc : Chg S w w') (hs : ∀ k, S k → k ≠ r ∧ k ≠ G) : RR B G w' r us d := by
  obtain ⟨⟨n, cap, p, cur, h1, h2, h3⟩, hab, hd, hg⟩ := h
  exact ⟨⟨n, cap, p, cur, hc.heap h1 (fun s => (hs r s).1 rfl), hc.heap h2 (fun s => (hs G s).2 rfl), h3⟩, hab, hd, hg⟩
theorem RR.kept {B G : Nat} {w w' : World} {r : Nat} {us : List Tok} {d : Nat} (h : RR B G w r us d) (hk : Kept w w') : RR B G w' r us d :=
  h.chg (S := fun _ => False) (Chg.of_kept hk) fun _ s => s.elim
/-- A block of another kind is none of the reader's. -/
theorem RR.apart {B G : Nat} {w : World} {r : Nat} {us : List Tok} {d : Nat} (h : RR B G w r us d) {k : Nat} {c : Array Value} {t : TypeId} {z : Nat × Nat} (hk : w.heap[k]? = some (.cells c t z)) (h1 : t ≠ 80) (h2 : t ≠ 83) : k ≠ r ∧ k ≠ G := by
  obtain ⟨n, cap, p, cur, e1, e2, _⟩ := h.lie
  exact ⟨ne_of_ty hk e1 h1, ne_of_ty hk e2 h2⟩
/-- The cells that the walks read. -/
theorem RR.head {B G : Nat} {w : World} {r : Nat} {t : Tok} {us : List Tok} {d : Nat} (h : RR B G w r (t :: us) d) :
    ∃ n cap p, w.cell? ⟨r, 0, none⟩ = some (.slice (some ⟨G, 0, none⟩) n cap) ∧ w.cell? ⟨r, 1, none⟩ = some (.int .i64 (p : Nat)) ∧ w.cell? ⟨r, 2, none⟩ = some (.int .i64 d) ∧ w.cell? ⟨r, 3, none⟩ = some (.int .i64 0) ∧
      w.frozen? ⟨r, 1, none⟩ = false ∧ w.frozen? ⟨r, 2, none⟩ = false ∧
      p < n ∧ n ≤ cap ∧ cap ≤ maxLen ∧ n ≤ 8193 ∧ r < w.heap.size ∧ G < w.heap.size ∧
      w.cell? ⟨G, p * 3, none⟩ = some (.int .i64 t.kind) ∧ w.cell? ⟨G, p * 3 + 1, none⟩ = some (.string ⟨t.text.toArray⟩) ∧ w.cell? ⟨G, p * 3 + 2, none⟩ = some (.int .i64 t.place) := by
  obtain ⟨⟨n, cap, p, cur, h1, h2, h3, h4, h5, h6, h7⟩, hab, hd, hg⟩ := h
  have hx := h7 0 (by simp)
  simp only [List.getElem_cons_zero, Nat.add_zero] at hx
  refine ⟨n, cap, p, box_cell h1 0 _ rfl, box_cell h1 1 _ rfl, box_cell h1 2 _ rfl, box_cell h1 3 _ rfl, box_froz h1 1, box_froz h1 2, by simp at h3; omega, h4, h5, h6, (Array.getElem?_eq_some_iff.1 h1).1, (Array.getElem?_eq_some_iff.1 h2).1, ?_, ?_, ?_⟩
  · simp [World.cell?, h2, hx.1]
  · simp [World.cell?, h2, hx.2.1]
  · simp [World.cell?, h2, hx.2.2]
/-- Behind a change of the reader's own cells: one token on, or deeper. -/
theorem RR.next {B G : Nat} {w : World} {r : Nat} {t : Tok} {us : List Tok} {d p : Nat} (h : RR B G w r (t :: us) d) (hp : w.cell? ⟨r, 1, none⟩ = some (.int .i64 (p : Nat))) :
    RR B G (w.setCell ⟨r, 1, none⟩ (.int .i64 ((p : Int) + 1))) r us d ∧ Chg (fun k => k = r) w (w.setCell ⟨r, 1, none⟩ (.int .i64 ((p : Int) + 1))) := by
  have hc : Chg (fun k => k = r) w (w.setCell ⟨r, 1, none⟩ (.int .i64 ((p : Int) + 1))) := (Chg.refl (fun k => k = r) w).setCell (fun _ => rfl) _
  obtain ⟨⟨n, cap, p', cur, h1, h2, h3, h4, h5, h6, h7⟩, hab, hd, hg⟩ := h
  have hpp : p' = p := by
    have := box_cell h1 1 _ rfl
    rw [hp] at this; simp [rrCells] at this; omega
  subst hpp
  refine ⟨⟨⟨n, cap, p' + 1, cur, ?_, hc.heap h2 (fun e => ne_of_ty h2 h1 (by decide) e), by simp at h3; omega, h4, h5, h6, fun i hi => ?_⟩, hab, hd, fun x hx => hg x (by simp [hx])⟩, hc⟩
  · rw [heap_setCell_same _ _ _ _ _ _ h1]; simp [rrCells]
  · have := h7 (i + 1) (by simp; omega)
    simp only [List.getElem_cons_succ] at this
    rw [show p' + 1 + i = p' + (i + 1) by omega]; exact this
theorem RR.dive {B G : Nat} {w : World} {r : Nat} {us : List Tok} {d : Nat} (d' : Nat) (h : RR B G w r us d) (hd' : d' ≤ 10000) :
    RR B G (w.setCell ⟨r, 2, none⟩ (.int .i64 d')) r us d' ∧ Chg (fun k => k = r) w (w.setCell ⟨r, 2, none⟩ (.int .i64 d')) := by
  have hc : Chg (fun k => k = r) w (w.setCell ⟨r, 2, none⟩ (.int .i64 d')) := (Chg.refl (fun k => k = r) w).setCell (fun _ => rfl) _
  obtain ⟨⟨n, cap, p', cur, h1, h2, h3⟩, hab, hd, hg⟩ := h
  refine ⟨⟨⟨n, cap, p', cur, ?_, hc.heap h2 (fun e => ne_of_ty h2 h1 (by decide) e), h3⟩, hab, hd', hg⟩, hc⟩
  rw [heap_setCell_same _ _ _ _ _ _ h1]; simp [rrCells]

theorem RR.deep_cell {B G : Nat} {w : World} {r : Nat} {us : List Tok} {d : Nat} (h : RR B G w r us d) : w.cell? ⟨r, 2, none⟩ = some (.int .i64 d) ∧ w.frozen? ⟨r, 2, none⟩ = false ∧ r < w.heap.size := by
  obtain ⟨n, cap, p, cur, h1, _⟩ := h.lie
  exact ⟨box_cell h1 2 _ rfl, box_froz h1 2, (Array.getElem?_eq_some_iff.1 h1).1⟩

theorem here_any {B G r d : Nat} {t : Tok} {us : List Tok} (w : World) (h : RR B G w r (t :: us) d) : Calls Try.prog 51 #[.pointer (some ⟨r, 0, none⟩)] w fun e w' => e = .returned (.int .i64 t.place) ∧ Kept w w' := by
  obtain ⟨n, cap, p, c0, c1, _, _, _, _, hp, hn, hm, h8, hr, hG, k0, k1, k2⟩ := h.head
  simp only [maxLen] at hm
  clear h
  go_enter Try.func51, Try.ntmps51
  go_wp2
  go_quiet (fail)
  go_wp2
  go_ret
  exact ⟨rfl, (Kept.refl _).drewN _⟩
set_option maxHeartbeats 1000000 in
/-- Does a key word or a sign stand there? -/
theorem is_any {B G r d : Nat} {t : Tok} {us : List Tok} {s : List UInt8} (w : World) (h : RR B G w r (t :: us) d) (hs : isKeyF s = true ∨ isSg s = true) : Calls Try.prog 50 #[.pointer (some ⟨r, 0, none⟩), .string ⟨s.toArray⟩] w fun e w' => e = .returned (.bool (decide (t.text = s))) ∧ Kept w w' := by
  obtain ⟨n, cap, p, c0, c1, _, c3, _, _, hp, hn, hm, h8, hr, hG, k0, k1, k2⟩ := h.head
  simp only [maxLen] at hm
  have hg := (h.good t (by simp)).2.2.2.1
  have hq : (t.kind = 4 ∨ t.kind = 3) ∨ (t.kind ≠ 4 ∧ t.kind ≠ 3 ∧ t.text ≠ s) := by
    rcases hg with hg | hg | ⟨h3, h4, h1, h2⟩
    · exact .inl (.inr hg.1)
    · exact .inl (.inl hg.1)
    · by_cases hk : t.kind = 4 ∨ t.kind = 3
      · exact .inl hk
      · refine .inr ⟨by omega, by omega, fun e => ?_⟩
        subst e
        rcases hs with hs | hs
        · rw [hs] at h1; cases h1
        · rw [hs] at h2; cases h2
  have hst : (t.text == s) = decide (t.text = s) := by by_cases e : t.text = s <;> simp [e]
  clear h hs hg
  rcases hq with (hq | hq) | ⟨h4, h3, hne⟩
  · rw [hq] at k0
    go_enter Try.func50, Try.ntmps50
    go_wp2
    go_region
    all_goals
      go_wp2
      go_ret
      exact ⟨rfl, ((Kept.refl w).alloc _).drew⟩
  · rw [hq] at k0
    go_enter Try.func50, Try.ntmps50
    go_wp2
    go_region
    all_goals
      go_wp2
      go_ret
      exact ⟨rfl, ((Kept.refl w).alloc _).drew⟩
  · have e4 : ((t.kind : Int) == 4) = false := by rw [beq_eq_false_iff_ne]; omega
    have e3 : ((t.kind : Int) == 3) = false := by rw [beq_eq_false_iff_ne]; omega
    rw [show decide (t.text = s) = false from decide_eq_false hne]
    clear hst
    go_enter Try.func50, Try.ntmps50
    go_wp2
    go_region
    all_goals
      go_wp2
      go_ret
      exact ⟨rfl, ((Kept.refl w).alloc _).drew⟩
theorem is_yes {B G r d : Nat} {t : Tok} {us : List Tok} {s : List UInt8} (w : World) (h : RR B G w r (t :: us) d) (hs : isKeyF s = true ∨ isSg s = true) (ht : t.text = s) : Calls Try.prog 50 #[.pointer (some ⟨r, 0, none⟩), .string ⟨s.toArray⟩] w fun e w' => e = .returned (.bool true) ∧ Kept w w' := by
  have := is_any w h hs
  rw [decide_eq_true ht] at this
  exact this
theorem is_no {B G r d : Nat} {t : Tok} {us : List Tok} {s : List UInt8} (w : World) (h : RR B G w r (t :: us) d) (hs : isKeyF s = true ∨ isSg s = true) (ht : t.text ≠ s) : Calls Try.prog 50 #[.pointer (some ⟨r, 0, none⟩), .string ⟨s.toArray⟩] w fun e w' => e = .returned (.bool false) ∧ Kept w w' := by
  have := is_any w h hs
  rw [decide_eq_false ht] at this
  exact this

theorem take_no {B G r d : Nat} {t : Tok} {us : List Tok} {s : List UInt8} (w : World) (h : RR B G w r (t :: us) d) (hs : isKeyF s = true ∨ isSg s = true) (ht : t.text ≠ s) : Calls Try.prog 64 #[.pointer (some ⟨r, 0, none⟩), .string ⟨s.toArray⟩] w fun e w' => e = .returned (.bool false) ∧ Kept w w' := by
  have HI := Lib.hid (is_no w h hs ht)
  clear h hs ht
  go_enter Try.func64, Try.ntmps64
  go_wp2_with (first | (go_at_call 50; refine HI.out.mono ?_; rintro e w1 ⟨rfl, hk⟩))
  go_ret
  exact ⟨rfl, hk⟩
theorem take_yes {B G r d : Nat} {t : Tok} {us : List Tok} {s : List UInt8} (w : World) (h : RR B G w r (t :: us) d) (hs : isKeyF s = true ∨ isSg s = true) (ht : t.text = s) : Calls Try.prog 64 #[.pointer (some ⟨r, 0, none⟩), .string ⟨s.toArray⟩] w fun e w' => e = .returned (.bool true) ∧ Hid (Chg (fun k => k = r) w w' ∧ RR B G w' r us d) := by
  have HI := Lib.hid (is_yes w h hs ht)
  have H := Lib.hid h
  clear h hs ht
  go_enter Try.func64, Try.ntmps64
  go_wp2_with (first | (go_at_call 50; refine HI.out.mono ?_; rintro e w1 ⟨rfl, hk⟩; have H1 := Lib.hid (And.intro (H.out.kept hk) hk); clear hk; obtain ⟨n, cap, p, c0, c1, _, _, f1, _, hp, hn, hm, h8, hr, hG, _, _, _⟩ := H1.out.1.head))
  go_ret
  have hx := H1.out.1.next c1
  exact ⟨rfl, Lib.hid ⟨(Chg.of_kept H1.out.2).then hx.2, hx.1⟩⟩
theorem want_yes {B G r d : Nat} {t : Tok} {us : List Tok} {s : List UInt8} (w : World) (h : RR B G w r (t :: us) d) (hs : isKeyF s = true ∨ isSg s = true) (ht : t.text = s) : Calls Try.prog 52 #[.pointer (some ⟨r, 0, none⟩), .string ⟨s.toArray⟩] w fun e w' => e = .returned (.tuple #[]) ∧ Hid (Chg (fun k => k = r) w w' ∧ RR B G w' r us d) := by
  have HI := Lib.hid (take_yes w h hs ht)
  clear h hs ht
  go_enter Try.func52, Try.ntmps52
  go_wp2_with (first | (go_at_call 64; refine HI.out.mono ?_; rintro e w1 ⟨rfl, H1⟩))
  exact bodyPost_end (results_none rfl _ _ _) rfl ⟨rfl, H1⟩
theorem open_yes {B G r d : Nat} {t : Tok} {us : List Tok} {s : List UInt8} (w : World) (h : RR B G w r (t :: us) d) (hs : isKeyF s = true ∨ isSg s = true) (ht : t.text = s) (hd : d < 30) : Calls Try.prog 70 #[.pointer (some ⟨r, 0, none⟩), .string ⟨s.toArray⟩] w fun e w' => e = .returned (.tuple #[]) ∧ Hid (Chg (fun k => k = r) w w' ∧ RR B G w' r us (d + 1)) := by
  have HI := Lib.hid (is_yes w h hs ht)
  have HW : Hid (∀ w1, Kept w w1 → Calls Try.prog 52 #[.pointer (some ⟨r, 0, none⟩), .string ⟨s.toArray⟩] w1 fun e w' => e = .returned (.tuple #[]) ∧ Hid (Chg (fun k => k = r) w1 w' ∧ RR B G w' r us d)) := Lib.hid fun w1 hk => want_yes w1 (h.kept hk) hs ht
  have H := Lib.hid h
  clear h hs ht
  go_enter Try.func70, Try.ntmps70
  go_wp2_with (first | (go_at_call 50; refine HI.out.mono ?_; rintro e w1 ⟨rfl, hk⟩; have H1 := Lib.hid (And.intro (H.out.kept hk) hk); clear hk; obtain ⟨n, cap, p, c0, c1, c2, _, f1, f2, hp, hn, hm, h8, hr, hG, _, _, _⟩ := H1.out.1.head) | (go_at_call 52; refine (HW.out _ H1.out.2).mono ?_; rintro e w2 ⟨rfl, H2⟩; obtain ⟨d2, g2, l2⟩ := H2.out.2.deep_cell))
  have hx := H2.out.2.dive (d + 1) (by have := H2.out.2.deep; omega)
  exact bodyPost_end (results_none rfl _ _ _) rfl ⟨rfl, Lib.hid ⟨((Chg.of_kept H1.out.2).then H2.out.1).then hx.2, hx.1⟩⟩
end Go.Proofs.Ythjnkjekidagiaa.Rpr
