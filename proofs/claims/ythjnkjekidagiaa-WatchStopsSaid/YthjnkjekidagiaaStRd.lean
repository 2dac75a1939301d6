/-
  unary of the document's answer's parser, out of itself and of inner at smaller fuels.
  unary of the document's answer's parser whole; row, unary and inner at whatever number of steps (said_all).
  Plain facts on what the conditions' functions come to (PrsP): where it was too deep once it stays so; the list grows, by no more than the tokens that were read. No program is named here.
  Conditions of the document's answer's parser in memory: CnCells, an append of one (wpList_pushC), what stands ahead of a call that reads into a list of conditions (CIn) and behind it (COut); the reader's small methods along COut; rel.
  rel, one, both and cond of the document's answer's parser, at whatever number of steps (cond_all).
  Cond of the document's answer's parser, of a text that can be read (condRead: by reckoning on the text's bytes).
-/
import Derived.Test.YthjnkjekidagiaaRrdF
import Derived.Deep.Cut
import Derived.Deep.RegionHeld3
import Derived.Test.YthjnkjekidagiaaRrdQ
import Derived.Deep.LoopGhost
import Derived.WalkMore
namespace Go.Proofs.Ythjnkjekidagiaa.Rpr
open Go.RowKit
open Lex (Tok isKeyF readF)
open Prs

theorem read_readT (l : List UInt8) : Typ.readF l = (readT l : Int) := by
  unfold Typ.readF readT
  repeat' split
  all_goals rfl

/-- An append of one node that was just laid into a block of its own. -/
theorem wpList_push {ops : Array Oper} {rest : List Oper} {o : Oper} {a : Act} {Q : Exit → Act → World → Prop} (hgd : o.guard = none) (s x : Operand)
    (ho : o.op = .call { callee := .builtin .append, args := #[s, x], argTypes := #[99, 99] }) {B : Nat} {v : Value} {l : List Ex} (e : Ex) (cs : Array Value) (w : World) (hown : w.ownsRow B 146 7 v l.length (exCells l)) (hB : B ≤ w.heap.size) (hl : l.length ≤ 8193) (hs : a.eval s = v) (hx : a.eval x = .slice (some ⟨w.heap.size, 0, none⟩) 1 1) (hc : cs.toList = exCell e)
    (h : ∀ v' w', Hid (Pushed B v w l e w' v') → wpList Try.prog ops Q rest (a.put o.dst v') w') : wpList Try.prog ops Q (o :: rest) a (w.alloc (.cells cs 146)) := by
  obtain ⟨i0, hi0, hz0, hz1, hz2⟩ := info_parts ex_info
  refine wpList_append_lies _ hgd s x 99 ho B 146 i0 _ 7 64 Try.underlying99 hi0 hz0 hz1 hz2 rfl (by omega) v l.length (exCells l) hs (hown.alloc _) ⟨w.heap.size, 0, none⟩ 1 1 (exCell e) hx rfl ?_ ?_ (by omega) (by simp only [maxLen]; omega) (by omega) (by simp; omega) (w.heap.size + 1) (by simp) ?_
  · rw [← hc]; exact World.news_of_block (heap_alloc_new w _)
  · simp [exCell, Value.oneCell']
  · intro g cap w7 hown' hgrow hat hlt
    exact h _ _ (Lib.hid (pushed hown' hgrow hat))

/-- The same at a step of a region that draws its order. -/
theorem step_push {ops : Array Oper} {o : Oper} {a : Act} {K : Act → World → Prop} {Q : Exit → Act → World → Prop} {E : Prop} (hgd : o.guard = none) (s x : Operand)
    (ho : o.op = .call { callee := .builtin .append, args := #[s, x], argTypes := #[99, 99] }) {B : Nat} {v : Value} {l : List Ex} (e : Ex) (cs : Array Value) (w : World) (hown : w.ownsRow B 146 7 v l.length (exCells l)) (hB : B ≤ w.heap.size) (hl : l.length ≤ 8193) (hs : a.eval s = v) (hx : a.eval x = .slice (some ⟨w.heap.size, 0, none⟩) 1 1) (hc : cs.toList = exCell e)
    (h : ∀ v' w', Hid (Pushed B v w l e w' v') → K (a.put o.dst v') w') : if Region.wanted o (yielded ops a.tmps) = true then Oper.wp Try.prog o a (w.alloc (.cells cs 146)) K Q else E := by
  obtain ⟨i0, hi0, hz0, hz1, hz2⟩ := info_parts ex_info
  refine step_append_lies _ hgd s x 99 ho B 146 i0 _ 7 64 Try.underlying99 hi0 hz0 hz1 hz2 rfl (by omega) v l.length (exCells l) hs (hown.alloc _) ⟨w.heap.size, 0, none⟩ 1 1 (exCell e) hx rfl ?_ ?_ (by omega) (by simp only [maxLen]; omega) (by omega) (by simp; omega) (w.heap.size + 1) (by simp) ?_
  · rw [← hc]; exact World.news_of_block (heap_alloc_new w _)
  · simp [exCell, Value.oneCell']
  · intro g cap w7 hown' hgrow hat hlt
    exact h _ _ (Lib.hid (pushed hown' hgrow hat))

def tokV (t : Tok) : Array Value := #[.int .i64 t.kind, .string ⟨t.text.toArray⟩, .int .i64 t.place]
/-- Where unary stands once it has its token: in a block of its own. -/
structure UAt (B G r d : Nat) (v : Value) (t : Tok) (us : List Tok) (l : List Ex) (b : Nat) (w wc : World) : Prop where
  inn : EIn B G wc r v (t :: us) d l
  box : wc.heap[b]? = some (.cells (tokV t) 83 (0, 0))
  kept : Kept w wc
theorem UAt.step {B G r d b : Nat} {v : Value} {t : Tok} {us : List Tok} {l : List Ex} {w wc w' : World} (h : UAt B G r d v t us l b w wc) (hk : Kept wc w') : UAt B G r d v t us l b w w' :=
  ⟨h.inn.kept hk, (Chg.of_kept (S := fun _ => False) hk).heap h.box id, h.kept.trans hk⟩
theorem UAt.cells {B G r d b : Nat} {v : Value} {t : Tok} {us : List Tok} {l : List Ex} {w wc : World} (h : UAt B G r d v t us l b w wc) :
    wc.cell? ⟨b, 0, none⟩ = some (.int .i64 t.kind) ∧ wc.cell? ⟨b, 1, none⟩ = some (.string ⟨t.text.toArray⟩) ∧ wc.cell? ⟨b, 2, none⟩ = some (.int .i64 t.place) :=
  ⟨box_cell h.box 0 _ rfl, box_cell h.box 1 _ rfl, box_cell h.box 2 _ rfl⟩
theorem u_start {B G r d : Nat} {v : Value} {t : Tok} {us : List Tok} {l : List Ex} {w : World} (h : EIn B G w r v (t :: us) d l) : UAt B G r d v t us l w.heap.size w (w.alloc (.cells (tokV t) 83)).drew :=
  have hk : Kept w (w.alloc (.cells (tokV t) 83)).drew := ((Kept.refl w).alloc _).drew
  ⟨h.kept hk, heap_alloc_new w _, hk⟩
theorem u_is_no {B G r d b : Nat} {v : Value} {t : Tok} {us : List Tok} {l : List Ex} {w wc : World} {s : List UInt8} (h : UAt B G r d v t us l b w wc) (hs : isKeyF s = true ∨ isSg s = true) (ht : t.text ≠ s) : Calls Try.prog 50 #[.pointer (some ⟨r, 0, none⟩), .string ⟨s.toArray⟩] wc fun e w' => e = .returned (.bool false) ∧ Hid (UAt B G r d v t us l b w w') :=
  (is_no wc h.inn.rd hs ht).mono fun _ _ ⟨h1, h2⟩ => ⟨h1, Lib.hid (h.step h2)⟩
theorem u_is_yes {B G r d b : Nat} {v : Value} {t : Tok} {us : List Tok} {l : List Ex} {w wc : World} {s : List UInt8} (h : UAt B G r d v t us l b w wc) (hs : isKeyF s = true ∨ isSg s = true) (ht : t.text = s) : Calls Try.prog 50 #[.pointer (some ⟨r, 0, none⟩), .string ⟨s.toArray⟩] wc fun e w' => e = .returned (.bool true) ∧ Hid (UAt B G r d v t us l b w w') :=
  (is_yes wc h.inn.rd hs ht).mono fun _ _ ⟨h1, h2⟩ => ⟨h1, Lib.hid (h.step h2)⟩
theorem u_take_no {B G r d b : Nat} {v : Value} {t : Tok} {us : List Tok} {l : List Ex} {w wc : World} {s : List UInt8} (h : UAt B G r d v t us l b w wc) (hs : isKeyF s = true ∨ isSg s = true) (ht : t.text ≠ s) : Calls Try.prog 64 #[.pointer (some ⟨r, 0, none⟩), .string ⟨s.toArray⟩] wc fun e w' => e = .returned (.bool false) ∧ Hid (UAt B G r d v t us l b w w') :=
  (take_no wc h.inn.rd hs ht).mono fun _ _ ⟨h1, h2⟩ => ⟨h1, Lib.hid (h.step h2)⟩

/-- Once it has gone by its token. -/
structure UGone (B G r d : Nat) (v : Value) (t : Tok) (us : List Tok) (l : List Ex) (b : Nat) (w wc : World) : Prop where
  inn : EIn B G wc r v us d l
  box : wc.heap[b]? = some (.cells (tokV t) 83 (0, 0))
  chg : Chg (fun k => k = r) w wc
theorem UGone.cells {B G r d b : Nat} {v : Value} {t : Tok} {us : List Tok} {l : List Ex} {w wc : World} (h : UGone B G r d v t us l b w wc) :
    wc.cell? ⟨b, 0, none⟩ = some (.int .i64 t.kind) ∧ wc.cell? ⟨b, 1, none⟩ = some (.string ⟨t.text.toArray⟩) ∧ wc.cell? ⟨b, 2, none⟩ = some (.int .i64 t.place) :=
  ⟨box_cell h.box 0 _ rfl, box_cell h.box 1 _ rfl, box_cell h.box 2 _ rfl⟩
theorem UAt.gone {B G r d b : Nat} {v : Value} {t : Tok} {us : List Tok} {l : List Ex} {w wc w' : World} (h : UAt B G r d v t us l b w wc) (hc : Chg (fun k => k = r) wc w') (hr : RR B G w' r us d) : UGone B G r d v t us l b w w' := by
  refine ⟨h.inn.reader hc hr (by simp), hc.heap h.box (fun e => by obtain ⟨_, _, _, _, e1, _⟩ := h.inn.rd.lie; exact ne_of_ty h.box e1 (by decide) e), (Chg.of_kept h.kept).then hc⟩
theorem UAt.next {B G r d b p : Nat} {v : Value} {t : Tok} {us : List Tok} {l : List Ex} {w wc : World} (h : UAt B G r d v t us l b w wc) (hp : wc.cell? ⟨r, 1, none⟩ = some (.int .i64 (p : Nat))) : UGone B G r d v t us l b w (wc.setCell ⟨r, 1, none⟩ (.int .i64 ((p : Int) + 1))) :=
  have hx := h.inn.rd.next hp
  h.gone hx.2 hx.1
theorem u_take_yes {B G r d b : Nat} {v : Value} {t : Tok} {us : List Tok} {l : List Ex} {w wc : World} {s : List UInt8} (h : UAt B G r d v t us l b w wc) (hs : isKeyF s = true ∨ isSg s = true) (ht : t.text = s) : Calls Try.prog 64 #[.pointer (some ⟨r, 0, none⟩), .string ⟨s.toArray⟩] wc fun e w' => e = .returned (.bool true) ∧ Hid (UGone B G r d v t us l b w w') :=
  (take_yes wc h.inn.rd hs ht).mono fun _ _ ⟨h1, h2⟩ => ⟨h1, Lib.hid (h.gone h2.out.1 h2.out.2)⟩
/-- What unary hands back: its list with one more. -/
theorem UGone.push {B G r d b : Nat} {v v' : Value} {t : Tok} {us : List Tok} {l : List Ex} {w wc w' : World} {e : Ex} (h : UGone B G r d v t us l b w wc) (h0 : EIn B G w r v (t :: us) d l) (hp : Pushed B v wc l e w' v') : EOut B G r v w w' v' us d (l ++ [e]) :=
  (EOut.of_reader h0 h.chg h.inn.rd (by simp)).trans (EOut.push h.inn hp (by have := h0.sz; simp at this; omega))

theorem Good.plain {t : Tok} (h : Good t) (hk : t.kind < 3) : isKeyF t.text = false ∧ isSg t.text = false := by
  rcases h.2.2.2.1 with h1 | h1 | h1
  · omega
  · omega
  · exact h1.2.2
theorem ne_sg {a s : List UInt8} (h : isSg a = false) (hs : isSg s = true) : a ≠ s := by intro e; rw [e, hs] at h; cases h
theorem ne_key {a s : List UInt8} (h : isKeyF a = false) (hs : isKeyF s = true) : a ≠ s := by intro e; rw [e, hs] at h; cases h

theorem key_sg {l : List UInt8} (h : isKeyF l = true) : isSg l = false := by
  have h2 : ∀ x ∈ Lex.keyWords, isSg x = false := by decide
  exact h2 l (by simpa [isKeyF] using h)
theorem Good.key {t : Tok} (h : Good t) (hk : isKeyF t.text = true) : t.kind = 3 := by
  rcases h.2.2.2.1 with h1 | h1 | h1
  · exact h1.1
  · exact absurd h1.2 (by rw [key_sg hk]; decide)
  · rw [hk] at h1; exact absurd h1.2.2.1 (by decide)
theorem read_key {l : List UInt8} (h : readT l ≠ 0) : isKeyF l = true ∧ isSg l = false := by
  unfold readT at h
  repeat' split at h
  all_goals first | (rename_i e; subst e; decide) | exact absurd rfl h
theorem cells_of {b : Nat} {t : Tok} {w : World} (h : w.heap[b]? = some (.cells (tokV t) 83 (0, 0))) :
    w.cell? ⟨b, 0, none⟩ = some (.int .i64 t.kind) ∧ w.cell? ⟨b, 1, none⟩ = some (.string ⟨t.text.toArray⟩) ∧ w.cell? ⟨b, 2, none⟩ = some (.int .i64 t.place) :=
  ⟨box_cell h 0 _ rfl, box_cell h 1 _ rfl, box_cell h 2 _ rfl⟩
theorem UGone.kept {B G r d b : Nat} {v : Value} {t : Tok} {us : List Tok} {l : List Ex} {w wc w' : World} (h : UGone B G r d v t us l b w wc) (hk : Kept wc w') : UGone B G r d v t us l b w w' :=
  ⟨h.inn.kept hk, (Chg.of_kept (S := fun _ => False) hk).heap h.box id, h.chg.keep hk⟩
theorem EOut.box {B G r d d' b : Nat} {v v' : Value} {us us' : List Tok} {l l' : List Ex} {w w' : World} {t : Tok} (h : EOut B G r v w w' v' us' d' l') (h0 : EIn B G w r v us d l) (hb : w.heap[b]? = some (.cells (tokV t) 83 (0, 0))) : w'.heap[b]? = some (.cells (tokV t) 83 (0, 0)) := by
  refine h.chg.heap hb fun hs => ?_
  rcases hs with rfl | hs
  · obtain ⟨n, cap, p, cur, e1, _⟩ := h0.rd.lie
    exact ne_of_ty hb e1 (by decide) rfl
  · obtain ⟨_, c', hc'⟩ := own_at h0.own hs
    exact ne_of_ty hb hc' (by decide) rfl
theorem UGone.push2 {B G r d d1 b : Nat} {v v2 v' : Value} {t : Tok} {us us1 us2 : List Tok} {l l2 : List Ex} {w wc w2 w' : World} {e : Ex} (h : UGone B G r d1 v t us1 l b w wc) (_h0 : EIn B G w r v us d l) (h1 : EOut B G r v wc w2 v2 us2 d l2) (hp : Pushed B v2 w2 l2 e w' v') (_hl : us1.length ≤ us.length) (hs : l2.length + 1 + us2.length ≤ 8193) : EOut B G r v w w' v' us2 d (l2 ++ [e]) := by
  refine (EOut.trans (us1 := us1) (d := d1) (l1 := l) ⟨h.chg.mono fun _ _ e => .inl e, .inl rfl, h.inn⟩ h1).trans (EOut.push h1.to hp hs)
theorem UAt.deeper {B G r d d1 b : Nat} {v : Value} {t : Tok} {us : List Tok} {l : List Ex} {w wc w' : World} (h : UAt B G r d v t us l b w wc) (hc : Chg (fun k => k = r) wc w') (hr : RR B G w' r us d1) : UGone B G r d1 v t us l b w w' := by
  refine ⟨h.inn.reader hc hr (by simp), hc.heap h.box (fun e => by obtain ⟨_, _, _, _, e1, _⟩ := h.inn.rd.lie; exact ne_of_ty h.box e1 (by decide) e), (Chg.of_kept h.kept).then hc⟩
theorem EOut.up {B G r d b : Nat} {v v' : Value} {us' : List Tok} {l' : List Ex} {w w' : World} {t : Tok} (h : EOut B G r v w w' v' us' (d + 1) l') (hb : w'.heap[b]? = some (.cells (tokV t) 83 (0, 0))) :
    EOut B G r v w (w'.setCell ⟨r, 2, none⟩ (.int .i64 d)) v' us' d l' ∧ (w'.setCell ⟨r, 2, none⟩ (.int .i64 d)).heap[b]? = some (.cells (tokV t) 83 (0, 0)) := by
  have hx := h.to.rd.dive d (by have := h.to.rd.deep; omega)
  refine ⟨h.trans (EOut.of_reader h.to hx.2 hx.1 (Nat.le_refl _)), hx.2.heap hb fun e => ?_⟩
  obtain ⟨_, _, _, _, e1, _⟩ := h.to.rd.lie
  exact ne_of_ty hb e1 (by decide) e

-- GEN
set_option maxRecDepth 100000 in
set_option maxHeartbeats 4000000 in
theorem unary_num {B G r d : Nat} {v : Value} {t : Tok} {us : List Tok} {l : List Ex} (w : World) (h : EIn B G w r v (t :: us) d l) (hk : t.kind = 2) :
    Calls Try.prog 81 #[.pointer (some ⟨r, 0, none⟩), v] w fun e w' => ∃ v', e = .returned v' ∧ Hid (EOut B G r v w w' v' us d (l ++ [⟨1, (numF t.text).1, (numF t.text).2, [], -1, -1, t.place⟩])) := by
  have hg := h.rd.good t (by simp)
  have hgg := (hg.plain (by omega)).2
  have n1 : t.text ≠ [45] := ne_sg hgg (by decide)
  have n2 : t.text ≠ [126] := ne_sg hgg (by decide)
  have n3 : t.text ≠ [40] := ne_sg hgg (by decide)
  obtain ⟨vn, un, hv⟩ := hg.2.2.2.2 hk
  have hN : numF t.text = (vn, if un then 6 else 5) := by unfold numF; rw [hv]
  rw [hN]
  have hts : (⟨t.text.toArray⟩ : ByteArray).size ≤ 4611686018427387904 := by
    have := (h.rd.good t (by simp)).1
    show t.text.toArray.size ≤ _
    simp; omega
  obtain ⟨ty, hty, hty'⟩ : ∃ ty : Nat, (if un then 6 else 5 : Nat) = ty ∧ (if un = true then (6 : Int) else 5) = ty := ⟨_, rfl, by split <;> rfl⟩
  have HNum := fun w => Lex.rNumber_ok ⟨t.text.toArray⟩ w vn un hts hv
  rw [hty'] at HNum
  rw [hty]
  replace HNum := Lib.hid HNum
  have Hk := Lib.hid hk
  clear hgg hN hts hv hg hk hty hty'
  have HU := Lib.hid (u_start h)
  have hsz := h.sz
  simp only [List.length_cons] at hsz
  obtain ⟨n, cap, p, c0, c1, c2, c3, f1, f2, hp, hn, hm, h8, hr, hG, k0, k1, k2⟩ := h.rd.head
  simp only [maxLen] at hm
  have HH := Lib.hid h
  clear h
  go_enter Try.func81, Try.ntmps81
  go_wp2
  go_region
  unfold tokV at HU
  generalize (w.alloc (.cells #[.int .i64 t.kind, .string ⟨t.text.toArray⟩, .int .i64 t.place] 83)).drew = W at *
  clear c0 c1 c2 c3 f1 f2 k0 k1 k2 hr hG hn hm h8 hp
  obtain ⟨z0, z1, z2⟩ := HU.out.cells
  rw [Hk.out] at z0
  go_upto_region 15 with (go_at_call 50; first | (refine (u_is_no HU.out (by decide) (by assumption)).mono ?_; clear HU z0 z1 z2; rintro e w1 ⟨rfl, HU⟩; obtain ⟨z0, z1, z2⟩ := HU.out.cells; rw [Hk.out] at z0))
  obtain ⟨n, cap, p, c0, c1, c2, c3, f1, f2, hp, hn, hm, h8, hr, hG, k0, k1, k2⟩ := HU.out.inn.rd.head
  have HN := Lib.hid (HU.out.next c1)
  go_upto_region 16 with fail
  generalize w1.setCell ⟨r, 1, none⟩ (.int .i64 ((p : Int) + 1)) = w2 at *
  clear z0 z1 z2 c0 c1 c2 c3 f1 f2 k0 k1 k2 hr hG hn hm h8 hp
  obtain ⟨z0, z1, z2⟩ := HN.out.cells
  go_wp2_with (first | (go_at_call 62; refine (HNum.out _).mono ?_; rintro e w' ⟨rfl, rfl⟩) | (at_builtin; refine wpList_push rfl _ _ rfl (⟨1, vn, ty, [], -1, -1, t.place⟩) _ _ (HN.out.inn).own (HN.out.inn).base (by omega) rfl rfl (by simp [exCell]; try omega) ?_; intro v5 w5 H5))
  go_ret
  exact ⟨_, rfl, Lib.hid (HN.out.push HH.out H5.out)⟩
set_option maxRecDepth 100000 in
set_option maxHeartbeats 4000000 in
theorem unary_var {B G r d : Nat} {v : Value} {t : Tok} {us us2 : List Tok} {l : List Ex} (w : World) (h : EIn B G w r v (t :: us) d l) (hk : t.kind = 1) {u : Tok} (hu : us = u :: us2) (hu9 : Hid (u.text ≠ [91])) :
    Calls Try.prog 81 #[.pointer (some ⟨r, 0, none⟩), v] w fun e w' => ∃ v', e = .returned v' ∧ Hid (EOut B G r v w w' v' us d (l ++ [⟨2, 0, 0, t.text, -1, -1, t.place⟩])) := by
  have hg := h.rd.good t (by simp)
  have hgg := (hg.plain (by omega)).2
  have n1 : t.text ≠ [45] := ne_sg hgg (by decide)
  have n2 : t.text ≠ [126] := ne_sg hgg (by decide)
  have n3 : t.text ≠ [40] := ne_sg hgg (by decide)
  have Hk := Lib.hid hk
  clear hgg hg hk
  subst hu
  have HU := Lib.hid (u_start h)
  have hsz := h.sz
  simp only [List.length_cons] at hsz
  obtain ⟨n, cap, p, c0, c1, c2, c3, f1, f2, hp, hn, hm, h8, hr, hG, k0, k1, k2⟩ := h.rd.head
  simp only [maxLen] at hm
  have HH := Lib.hid h
  clear h
  go_enter Try.func81, Try.ntmps81
  go_wp2
  go_region
  unfold tokV at HU
  generalize (w.alloc (.cells #[.int .i64 t.kind, .string ⟨t.text.toArray⟩, .int .i64 t.place] 83)).drew = W at *
  clear c0 c1 c2 c3 f1 f2 k0 k1 k2 hr hG hn hm h8 hp
  obtain ⟨z0, z1, z2⟩ := HU.out.cells
  rw [Hk.out] at z0
  go_upto_region 19 with (go_at_call 50; first | (refine (u_is_no HU.out (by decide) (by assumption)).mono ?_; clear HU z0 z1 z2; rintro e w1 ⟨rfl, HU⟩; obtain ⟨z0, z1, z2⟩ := HU.out.cells; rw [Hk.out] at z0))
  obtain ⟨n, cap, p, c0, c1, c2, c3, f1, f2, hp, hn, hm, h8, hr, hG, k0, k1, k2⟩ := HU.out.inn.rd.head
  have HN := Lib.hid (HU.out.next c1)
  go_upto_region 20 with fail
  generalize w1.setCell ⟨r, 1, none⟩ (.int .i64 ((p : Int) + 1)) = w2 at *
  clear z0 z1 z2 c0 c1 c2 c3 f1 f2 k0 k1 k2 hr hG hn hm h8 hp
  obtain ⟨z0, z1, z2⟩ := HN.out.cells
  go_wp2_with (first | (go_at_call 50; refine (is_no _ HN.out.inn.rd (by decide) hu9.out).mono ?_; rintro e w3 ⟨rfl, k3⟩; have HN3 := Lib.hid (HN.out.kept k3); clear HN k3 z0 z1 z2; obtain ⟨z0, z1, z2⟩ := HN3.out.cells) | (at_builtin; refine wpList_push rfl _ _ rfl (⟨2, 0, 0, t.text, -1, -1, t.place⟩) _ _ (HN3.out.inn).own (HN3.out.inn).base (by omega) rfl rfl (by simp [exCell]; try omega) ?_; intro v5 w5 H5))
  go_ret
  exact ⟨_, rfl, Lib.hid (HN3.out.push HH.out H5.out)⟩
set_option maxRecDepth 100000 in
set_option maxHeartbeats 4000000 in
theorem unary_elem {f : Nat} (HI : InnerSaid f) {B G r d : Nat} {v : Value} {t : Tok} {us us2 us3 : List Tok} {l l2 : List Ex} (w : World) (h : EIn B G w r v (t :: us) d l) (hk : t.kind = 1) {u : Tok} (hu : us = u :: us3) (hu9 : Hid (u.text = [91])) (hb : bracketF f [91] [93] us d none l = .ok us2 none l2) :
    Calls Try.prog 81 #[.pointer (some ⟨r, 0, none⟩), v] w fun e w' => ∃ v', e = .returned v' ∧ Hid (EOut B G r v w w' v' us2 d (l2 ++ [⟨3, 0, 0, t.text, (l2.length - 1 : Nat), -1, t.place⟩])) := by
  have hg := h.rd.good t (by simp)
  have hgg := (hg.plain (by omega)).2
  have n1 : t.text ≠ [45] := ne_sg hgg (by decide)
  have n2 : t.text ≠ [126] := ne_sg hgg (by decide)
  have n3 : t.text ≠ [40] := ne_sg hgg (by decide)
  have Hk := Lib.hid hk
  have Hb := Lib.hid hb
  have hgr := (grows f).bracket _ _ _ _ _ _ _ _ _ hb
  clear hgg hg hk hb
  subst hu
  simp only [List.length_cons] at hgr
  have HU := Lib.hid (u_start h)
  have hsz := h.sz
  simp only [List.length_cons] at hsz
  obtain ⟨n, cap, p, c0, c1, c2, c3, f1, f2, hp, hn, hm, h8, hr, hG, k0, k1, k2⟩ := h.rd.head
  simp only [maxLen] at hm
  have HH := Lib.hid h
  clear h
  go_enter Try.func81, Try.ntmps81
  go_wp2
  go_region
  unfold tokV at HU
  generalize (w.alloc (.cells #[.int .i64 t.kind, .string ⟨t.text.toArray⟩, .int .i64 t.place] 83)).drew = W at *
  clear c0 c1 c2 c3 f1 f2 k0 k1 k2 hr hG hn hm h8 hp
  obtain ⟨z0, z1, z2⟩ := HU.out.cells
  rw [Hk.out] at z0
  go_upto_region 19 with (go_at_call 50; first | (refine (u_is_no HU.out (by decide) (by assumption)).mono ?_; clear HU z0 z1 z2; rintro e w1 ⟨rfl, HU⟩; obtain ⟨z0, z1, z2⟩ := HU.out.cells; rw [Hk.out] at z0))
  obtain ⟨n, cap, p, c0, c1, c2, c3, f1, f2, hp, hn, hm, h8, hr, hG, k0, k1, k2⟩ := HU.out.inn.rd.head
  have HN := Lib.hid (HU.out.next c1)
  go_upto_region 20 with fail
  generalize w1.setCell ⟨r, 1, none⟩ (.int .i64 ((p : Int) + 1)) = w2 at *
  clear z0 z1 z2 c0 c1 c2 c3 f1 f2 k0 k1 k2 hr hG hn hm h8 hp
  obtain ⟨z0, z1, z2⟩ := HN.out.cells
  go_upto_region 22 with (go_at_call 50; refine (is_yes _ HN.out.inn.rd (by decide) hu9.out).mono ?_; rintro e w6 ⟨rfl, k3⟩; have HN3 := Lib.hid (HN.out.kept k3); clear HN k3 z0 z1 z2; obtain ⟨z0, z1, z2⟩ := HN3.out.cells)
  have HN := HN3
  go_wp2_with (first | (go_at_call 92; refine (HI (o := [91]) (c := [93]) _ (by decide) (by decide) HN.out.inn Hb.out).mono ?_; rintro e w3 ⟨v3, rfl, H3⟩; obtain ⟨a3, c3, rfl⟩ := own_form H3.out.to.own; clear z0 z1 z2; obtain ⟨z0, z1, z2⟩ := cells_of (H3.out.box HN.out.inn HN.out.box)) | (at_builtin; refine wpList_push rfl _ _ rfl (⟨3, 0, 0, t.text, (l2.length - 1 : Nat), -1, t.place⟩) _ _ (H3.out.to).own (H3.out.to).base (by omega) rfl rfl (by simp [exCell]; try omega) ?_; intro v5 w5 H5))
  go_ret
  exact ⟨_, rfl, Lib.hid (HN.out.push2 HH.out H3.out H5.out (by simp) (by omega))⟩
set_option maxRecDepth 100000 in
set_option maxHeartbeats 4000000 in
theorem unary_old {f : Nat} (HI : InnerSaid f) {B G r d : Nat} {v : Value} {t : Tok} {us us2 : List Tok} {l l2 : List Ex} (w : World) (h : EIn B G w r v (t :: us) d l) (ht : t.text = [111, 108, 100]) (hb : bracketF f [40] [41] us d none l = .ok us2 none l2) :
    Calls Try.prog 81 #[.pointer (some ⟨r, 0, none⟩), v] w fun e w' => ∃ v', e = .returned v' ∧ Hid (EOut B G r v w w' v' us2 d (l2 ++ [⟨4, 0, 0, [], (l2.length - 1 : Nat), -1, t.place⟩])) := by
  have n1 : t.text ≠ [45] := by rw [ht]; decide
  have n2 : t.text ≠ [126] := by rw [ht]; decide
  have n3 : t.text ≠ [40] := by rw [ht]; decide
  have hk := (h.rd.good t (by simp)).key (by rw [ht]; decide)
  have Hb := Lib.hid hb
  have hgr := (grows f).bracket _ _ _ _ _ _ _ _ _ hb
  have Hk := Lib.hid hk
  have Ht := Lib.hid ht
  clear hb hk ht
  have HU := Lib.hid (u_start h)
  have hsz := h.sz
  simp only [List.length_cons] at hsz
  obtain ⟨n, cap, p, c0, c1, c2, c3, f1, f2, hp, hn, hm, h8, hr, hG, k0, k1, k2⟩ := h.rd.head
  simp only [maxLen] at hm
  have HH := Lib.hid h
  clear h
  go_enter Try.func81, Try.ntmps81
  go_wp2
  go_region
  unfold tokV at HU
  generalize (w.alloc (.cells #[.int .i64 t.kind, .string ⟨t.text.toArray⟩, .int .i64 t.place] 83)).drew = W at *
  clear c0 c1 c2 c3 f1 f2 k0 k1 k2 hr hG hn hm h8 hp
  obtain ⟨z0, z1, z2⟩ := HU.out.cells
  rw [Hk.out] at z0
  go_upto_region 24 with (go_at_call 50; first | (refine (u_is_no HU.out (by decide) (by assumption)).mono ?_; clear HU z0 z1 z2; rintro e w1 ⟨rfl, HU⟩; obtain ⟨z0, z1, z2⟩ := HU.out.cells; rw [Hk.out] at z0))
  go_upto_region 25 with (go_at_call 64; refine (u_take_yes HU.out (by decide) Ht.out).mono ?_; clear HU z0 z1 z2; rintro e w2 ⟨rfl, HN⟩; obtain ⟨z0, z1, z2⟩ := HN.out.cells)
  go_wp2_with (first | (go_at_call 92; refine (HI (o := [40]) (c := [41]) _ (by decide) (by decide) HN.out.inn Hb.out).mono ?_; rintro e w3 ⟨v3, rfl, H3⟩; obtain ⟨a3, c3, rfl⟩ := own_form H3.out.to.own; clear z0 z1 z2; obtain ⟨z0, z1, z2⟩ := cells_of (H3.out.box HN.out.inn HN.out.box)) | (at_builtin; refine wpList_push rfl _ _ rfl (⟨4, 0, 0, [], (l2.length - 1 : Nat), -1, t.place⟩) _ _ (H3.out.to).own (H3.out.to).base (by omega) rfl rfl (by simp [exCell]; try omega) ?_; intro v5 w5 H5))
  go_ret
  exact ⟨_, rfl, Lib.hid (HN.out.push2 HH.out H3.out H5.out (by simp) (by omega))⟩
set_option maxRecDepth 100000 in
set_option maxHeartbeats 4000000 in
theorem unary_result {B G r d : Nat} {v : Value} {t : Tok} {us : List Tok} {l : List Ex} (w : World) (h : EIn B G w r v (t :: us) d l) (ht : t.text = [114, 101, 115, 117, 108, 116]) :
    Calls Try.prog 81 #[.pointer (some ⟨r, 0, none⟩), v] w fun e w' => ∃ v', e = .returned v' ∧ Hid (EOut B G r v w w' v' us d (l ++ [⟨5, 0, 0, [], -1, -1, t.place⟩])) := by
  have n1 : t.text ≠ [45] := by rw [ht]; decide
  have n2 : t.text ≠ [126] := by rw [ht]; decide
  have n3 : t.text ≠ [40] := by rw [ht]; decide
  have n4 : t.text ≠ [111, 108, 100] := by rw [ht]; decide
  have hk := (h.rd.good t (by simp)).key (by rw [ht]; decide)
  have Hk := Lib.hid hk
  have Ht := Lib.hid ht
  clear hk ht
  have HU := Lib.hid (u_start h)
  have hsz := h.sz
  simp only [List.length_cons] at hsz
  obtain ⟨n, cap, p, c0, c1, c2, c3, f1, f2, hp, hn, hm, h8, hr, hG, k0, k1, k2⟩ := h.rd.head
  simp only [maxLen] at hm
  have HH := Lib.hid h
  clear h
  go_enter Try.func81, Try.ntmps81
  go_wp2
  go_region
  unfold tokV at HU
  generalize (w.alloc (.cells #[.int .i64 t.kind, .string ⟨t.text.toArray⟩, .int .i64 t.place] 83)).drew = W at *
  clear c0 c1 c2 c3 f1 f2 k0 k1 k2 hr hG hn hm h8 hp
  obtain ⟨z0, z1, z2⟩ := HU.out.cells
  rw [Hk.out] at z0
  go_upto_region 27 with (first | (go_at_call 50; first | (refine (u_is_no HU.out (by decide) (by assumption)).mono ?_; clear HU z0 z1 z2; rintro e w1 ⟨rfl, HU⟩; obtain ⟨z0, z1, z2⟩ := HU.out.cells; rw [Hk.out] at z0)) | (go_at_call 64; refine (u_take_no HU.out (by decide) (by assumption)).mono ?_; clear HU z0 z1 z2; rintro e w1 ⟨rfl, HU⟩; obtain ⟨z0, z1, z2⟩ := HU.out.cells; rw [Hk.out] at z0))
  go_upto_region 28 with (go_at_call 64; refine (u_take_yes HU.out (by decide) Ht.out).mono ?_; clear HU z0 z1 z2; rintro e w2 ⟨rfl, HN⟩; obtain ⟨z0, z1, z2⟩ := HN.out.cells)
  go_wp2_with (at_builtin; refine wpList_push rfl _ _ rfl (⟨5, 0, 0, [], -1, -1, t.place⟩) _ _ (HN.out.inn).own (HN.out.inn).base (by omega) rfl rfl (by simp [exCell]; try omega) ?_; intro v5 w5 H5)
  go_ret
  exact ⟨_, rfl, Lib.hid (HN.out.push HH.out H5.out)⟩
set_option maxRecDepth 100000 in
set_option maxHeartbeats 4000000 in
theorem unary_paren {f : Nat} (HI : InnerSaid f) {B G r d : Nat} {v : Value} {t : Tok} {us us2 : List Tok} {l l2 : List Ex} (w : World) (h : EIn B G w r v (t :: us) d l) (ht : t.text = [40]) (hb : bracketF f [40] [41] (t :: us) d none l = .ok us2 none l2) :
    Calls Try.prog 81 #[.pointer (some ⟨r, 0, none⟩), v] w fun e w' => ∃ v', e = .returned v' ∧ Hid (EOut B G r v w w' v' us2 d (l2)) := by
  have n1 : t.text ≠ [45] := by rw [ht]; decide
  have n2 : t.text ≠ [126] := by rw [ht]; decide
  have Hb := Lib.hid hb
  have Ht := Lib.hid ht
  clear hb ht
  have HU := Lib.hid (u_start h)
  have hsz := h.sz
  simp only [List.length_cons] at hsz
  obtain ⟨n, cap, p, c0, c1, c2, c3, f1, f2, hp, hn, hm, h8, hr, hG, k0, k1, k2⟩ := h.rd.head
  simp only [maxLen] at hm
  have HH := Lib.hid h
  clear h
  go_enter Try.func81, Try.ntmps81
  go_wp2
  go_region
  unfold tokV at HU
  generalize (w.alloc (.cells #[.int .i64 t.kind, .string ⟨t.text.toArray⟩, .int .i64 t.place] 83)).drew = W at *
  clear c0 c1 c2 c3 f1 f2 k0 k1 k2 hr hG hn hm h8 hp
  obtain ⟨z0, z1, z2⟩ := HU.out.cells
  go_upto_region 13 with (go_at_call 50; first | (refine (u_is_no HU.out (by decide) (by assumption)).mono ?_; clear HU z0 z1 z2; rintro e w1 ⟨rfl, HU⟩; obtain ⟨z0, z1, z2⟩ := HU.out.cells) | (refine (u_is_yes HU.out (by decide) Ht.out).mono ?_; clear HU z0 z1 z2; rintro e w1 ⟨rfl, HU⟩; obtain ⟨z0, z1, z2⟩ := HU.out.cells))
  go_wp2_with (go_at_call 92; refine (HI (o := [40]) (c := [41]) _ (by decide) (by decide) HU.out.inn Hb.out).mono ?_; rintro e w3 ⟨v3, rfl, H3⟩)
  go_ret
  exact ⟨_, rfl, Lib.hid ((EOut.of_reader HH.out (Chg.of_kept HU.out.kept) HU.out.inn.rd (Nat.le_refl _)).trans H3.out)⟩
set_option maxRecDepth 100000 in
set_option maxHeartbeats 4000000 in
theorem unary_neg {f : Nat} (HI : UnarySaid f) {B G r d : Nat} {v : Value} {t : Tok} {us us2 : List Tok} {l l2 : List Ex} (w : World) (h : EIn B G w r v (t :: us) d l) (ht : t.text = [45]) (hb : unaryF f us (d + 1) none l = .ok us2 none l2) (hd : d < 30) :
    Calls Try.prog 81 #[.pointer (some ⟨r, 0, none⟩), v] w fun e w' => ∃ v', e = .returned v' ∧ Hid (EOut B G r v w w' v' us2 d (l2 ++ [⟨6, 0, 0, [], (l2.length - 1 : Nat), -1, t.place⟩])) := by
  have n1 : t.text ≠ [126] := by rw [ht]; decide
  have Hb := Lib.hid hb
  have hgr := (grows f).unary _ _ _ _ _ _ _ hb
  obtain ⟨hg1, hg2, hg3⟩ := hgr
  have Ht := Lib.hid ht
  clear hb ht
  have HU := Lib.hid (u_start h)
  have hsz := h.sz
  simp only [List.length_cons] at hsz
  obtain ⟨n, cap, p, c0, c1, c2, c3, f1, f2, hp, hn, hm, h8, hr, hG, k0, k1, k2⟩ := h.rd.head
  simp only [maxLen] at hm
  have HH := Lib.hid h
  clear h
  go_enter Try.func81, Try.ntmps81
  go_wp2
  go_region
  unfold tokV at HU
  generalize (w.alloc (.cells #[.int .i64 t.kind, .string ⟨t.text.toArray⟩, .int .i64 t.place] 83)).drew = W at *
  clear c0 c1 c2 c3 f1 f2 k0 k1 k2 hr hG hn hm h8 hp
  obtain ⟨z0, z1, z2⟩ := HU.out.cells
  rw [Ht.out] at z1
  go_upto_region 8 with (go_at_call 50; first | (refine (u_is_no HU.out (by decide) (by assumption)).mono ?_; clear HU z0 z1 z2; rintro e w1 ⟨rfl, HU⟩; obtain ⟨z0, z1, z2⟩ := HU.out.cells; rw [Ht.out] at z1) | (refine (u_is_yes HU.out (by decide) Ht.out).mono ?_; clear HU z0 z1 z2; rintro e w1 ⟨rfl, HU⟩; obtain ⟨z0, z1, z2⟩ := HU.out.cells; rw [Ht.out] at z1))
  go_upto_region 10 with (first | (go_at_call 70; refine (open_yes (s := [45]) _ HU.out.inn.rd (by decide) Ht.out hd).mono ?_; rintro e w2 ⟨rfl, H2⟩; have HN := Lib.hid (HU.out.deeper H2.out.1 H2.out.2); clear z0 z1 z2; obtain ⟨z0, z1, z2⟩ := HN.out.cells) | (go_at_call 81; refine (HI _ HN.out.inn Hb.out).mono ?_; rintro e w3 ⟨v3, rfl, H3⟩; obtain ⟨a3, c3, rfl⟩ := own_form H3.out.to.own; have HB3 := Lib.hid (H3.out.box HN.out.inn HN.out.box)))
  obtain ⟨x1, x2, x3⟩ := H3.out.to.rd.deep_cell
  have hx := Lib.hid (H3.out.up HB3.out)
  have hdd : (((d + 1 : Nat) : Int) - 1) = d := by omega
  have hdd' : ((d : Int) + 1 - 1) = d := by omega
  go_upto_region 11 with fail
  generalize w3.setCell ⟨r, 2, none⟩ (.int .i64 d) = w4 at *
  clear z0 z1 z2 x1 x2 x3
  obtain ⟨z0, z1, z2⟩ := cells_of hx.out.2
  go_wp2_with (at_builtin; refine wpList_push rfl _ _ rfl (⟨6, 0, 0, [], (l2.length - 1 : Nat), -1, t.place⟩) _ _ (hx.out.1.to).own (hx.out.1.to).base (by omega) rfl rfl (by simp [exCell]; try omega) ?_; intro v5 w5 H5)
  go_ret
  exact ⟨_, rfl, Lib.hid (HN.out.push2 HH.out hx.out.1 H5.out (by simp) (by omega))⟩
set_option maxRecDepth 100000 in
set_option maxHeartbeats 4000000 in
theorem unary_com {f : Nat} (HI : UnarySaid f) {B G r d : Nat} {v : Value} {t : Tok} {us us2 : List Tok} {l l2 : List Ex} (w : World) (h : EIn B G w r v (t :: us) d l) (ht : t.text = [126]) (hb : unaryF f us (d + 1) none l = .ok us2 none l2) (hd : d < 30) :
    Calls Try.prog 81 #[.pointer (some ⟨r, 0, none⟩), v] w fun e w' => ∃ v', e = .returned v' ∧ Hid (EOut B G r v w w' v' us2 d (l2 ++ [⟨7, 0, 0, [], (l2.length - 1 : Nat), -1, t.place⟩])) := by
  have n1 : t.text ≠ [45] := by rw [ht]; decide
  have Hb := Lib.hid hb
  have hgr := (grows f).unary _ _ _ _ _ _ _ hb
  obtain ⟨hg1, hg2, hg3⟩ := hgr
  have Ht := Lib.hid ht
  clear hb ht
  have HU := Lib.hid (u_start h)
  have hsz := h.sz
  simp only [List.length_cons] at hsz
  obtain ⟨n, cap, p, c0, c1, c2, c3, f1, f2, hp, hn, hm, h8, hr, hG, k0, k1, k2⟩ := h.rd.head
  simp only [maxLen] at hm
  have HH := Lib.hid h
  clear h
  go_enter Try.func81, Try.ntmps81
  go_wp2
  go_region
  unfold tokV at HU
  generalize (w.alloc (.cells #[.int .i64 t.kind, .string ⟨t.text.toArray⟩, .int .i64 t.place] 83)).drew = W at *
  clear c0 c1 c2 c3 f1 f2 k0 k1 k2 hr hG hn hm h8 hp
  obtain ⟨z0, z1, z2⟩ := HU.out.cells
  rw [Ht.out] at z1
  go_upto_region 8 with (go_at_call 50; first | (refine (u_is_no HU.out (by decide) (by assumption)).mono ?_; clear HU z0 z1 z2; rintro e w1 ⟨rfl, HU⟩; obtain ⟨z0, z1, z2⟩ := HU.out.cells; rw [Ht.out] at z1) | (refine (u_is_yes HU.out (by decide) Ht.out).mono ?_; clear HU z0 z1 z2; rintro e w1 ⟨rfl, HU⟩; obtain ⟨z0, z1, z2⟩ := HU.out.cells; rw [Ht.out] at z1))
  go_upto_region 10 with (first | (go_at_call 70; refine (open_yes (s := [126]) _ HU.out.inn.rd (by decide) Ht.out hd).mono ?_; rintro e w2 ⟨rfl, H2⟩; have HN := Lib.hid (HU.out.deeper H2.out.1 H2.out.2); clear z0 z1 z2; obtain ⟨z0, z1, z2⟩ := HN.out.cells) | (go_at_call 81; refine (HI _ HN.out.inn Hb.out).mono ?_; rintro e w3 ⟨v3, rfl, H3⟩; obtain ⟨a3, c3, rfl⟩ := own_form H3.out.to.own; have HB3 := Lib.hid (H3.out.box HN.out.inn HN.out.box)))
  obtain ⟨x1, x2, x3⟩ := H3.out.to.rd.deep_cell
  have hx := Lib.hid (H3.out.up HB3.out)
  have hdd : (((d + 1 : Nat) : Int) - 1) = d := by omega
  have hdd' : ((d : Int) + 1 - 1) = d := by omega
  go_upto_region 11 with fail
  generalize w3.setCell ⟨r, 2, none⟩ (.int .i64 d) = w4 at *
  clear z0 z1 z2 x1 x2 x3
  obtain ⟨z0, z1, z2⟩ := cells_of hx.out.2
  go_wp2_with (at_builtin; refine wpList_push rfl _ _ rfl (⟨7, 0, 0, [], (l2.length - 1 : Nat), -1, t.place⟩) _ _ (hx.out.1.to).own (hx.out.1.to).base (by omega) rfl rfl (by simp [exCell]; try omega) ?_; intro v5 w5 H5)
  go_ret
  exact ⟨_, rfl, Lib.hid (HN.out.push2 HH.out hx.out.1 H5.out (by simp) (by omega))⟩
set_option maxRecDepth 100000 in
set_option maxHeartbeats 4000000 in
theorem unary_cast {f : Nat} (HI : InnerSaid f) {B G r d : Nat} {v : Value} {t : Tok} {us us2 : List Tok} {l l2 : List Ex} (w : World) (h : EIn B G w r v (t :: us) d l) (ht : readT t.text ≠ 0) (hb : bracketF f [40] [41] us d none l = .ok us2 none l2) :
    Calls Try.prog 81 #[.pointer (some ⟨r, 0, none⟩), v] w fun e w' => ∃ v', e = .returned v' ∧ Hid (EOut B G r v w w' v' us2 d (l2 ++ [⟨18, 0, readT t.text, [], (l2.length - 1 : Nat), -1, t.place⟩])) := by
  have hky := (read_key ht).1
  have hsg := (read_key ht).2
  have n1 : t.text ≠ [45] := ne_sg hsg (by decide)
  have n2 : t.text ≠ [126] := ne_sg hsg (by decide)
  have n3 : t.text ≠ [40] := ne_sg hsg (by decide)
  have n4 : t.text ≠ [111, 108, 100] := by intro e; rw [e] at ht; exact ht rfl
  have n5 : t.text ≠ [114, 101, 115, 117, 108, 116] := by intro e; rw [e] at ht; exact ht rfl
  have hk := (h.rd.good t (by simp)).key hky
  have Hb := Lib.hid hb
  have hgr := (grows f).bracket _ _ _ _ _ _ _ _ _ hb
  have Hk := Lib.hid hk
  have HR := Lib.hid (fun w => Lex.rread_v ⟨t.text.toArray⟩ w (readT t.text) (read_readT _))
  have hT0 : 0 < readT t.text := by omega
  generalize hT : readT t.text = T at *
  have hTb : ((0 : Int) < (T : Int)) := by omega
  clear hb hk hky hsg hT ht
  have HU := Lib.hid (u_start h)
  have hsz := h.sz
  simp only [List.length_cons] at hsz
  obtain ⟨n, cap, p, c0, c1, c2, c3, f1, f2, hp, hn, hm, h8, hr, hG, k0, k1, k2⟩ := h.rd.head
  simp only [maxLen] at hm
  have HH := Lib.hid h
  clear h
  go_enter Try.func81, Try.ntmps81
  go_wp2
  go_region
  unfold tokV at HU
  generalize (w.alloc (.cells #[.int .i64 t.kind, .string ⟨t.text.toArray⟩, .int .i64 t.place] 83)).drew = W at *
  clear c0 c1 c2 c3 f1 f2 k0 k1 k2 hr hG hn hm h8 hp
  obtain ⟨z0, z1, z2⟩ := HU.out.cells
  rw [Hk.out] at z0
  go_upto_region 29 with (first | (go_at_call 50; first | (refine (u_is_no HU.out (by decide) (by assumption)).mono ?_; clear HU z0 z1 z2; rintro e w1 ⟨rfl, HU⟩; obtain ⟨z0, z1, z2⟩ := HU.out.cells; rw [Hk.out] at z0)) | (go_at_call 64; refine (u_take_no HU.out (by decide) (by assumption)).mono ?_; clear HU z0 z1 z2; rintro e w1 ⟨rfl, HU⟩; obtain ⟨z0, z1, z2⟩ := HU.out.cells; rw [Hk.out] at z0))
  go_upto_region 30 with (go_at_call 61; refine (HR.out _).mono ?_; rintro e w6 ⟨rfl, k6⟩; have HU6 := Lib.hid (HU.out.step k6))
  clear HU z0 z1 z2
  have HU := HU6
  obtain ⟨z0, z1, z2⟩ := HU.out.cells
  obtain ⟨n, cap, p, c0, c1, c2, c3, f1, f2, hp, hn, hm, h8, hr, hG, k0, k1, k2⟩ := HU.out.inn.rd.head
  have HN := Lib.hid (HU.out.next c1)
  go_upto_region 31 with fail
  generalize w6.setCell ⟨r, 1, none⟩ (.int .i64 ((p : Int) + 1)) = w2 at *
  clear z0 z1 z2 c0 c1 c2 c3 f1 f2 k0 k1 k2 hr hG hn hm h8 hp
  obtain ⟨z0, z1, z2⟩ := HN.out.cells
  go_upto_region 32 with (go_at_call 92; refine (HI (o := [40]) (c := [41]) _ (by decide) (by decide) HN.out.inn Hb.out).mono ?_; rintro e w3 ⟨v3, rfl, H3⟩; obtain ⟨a3, c3, rfl⟩ := own_form H3.out.to.own; have HB3 := Lib.hid (H3.out.box HN.out.inn HN.out.box); clear z0 z1 z2; obtain ⟨z0, z1, z2⟩ := cells_of (H3.out.box HN.out.inn HN.out.box))
  have hwr : IntKind.i64.wrap ((l2.length : Int) - 1) = ((l2.length - 1 : Nat) : Int) := by rw [IntWalk.i64_in _ (by omega)]; omega
  go_region_held3 (fun w' => w'.cell? ⟨w.heap.size, 1, none⟩ = some (.string ⟨t.text.toArray⟩) ∧ w'.cell? ⟨w.heap.size, 2, none⟩ = some (.int .i64 t.place))
    (first | go_keep | exact ⟨y1, y2⟩ | exact ⟨x1, x2⟩)
    (first | (go_at_call 61; refine (HR.out _).mono ?_; rintro e w9 ⟨rfl, k9⟩; have K9 := Lib.hid ((Kept.refl w3).drew.trans k9); have H9 := Lib.hid (H3.out.trans (EOut.of_reader H3.out.to (Chg.of_kept K9.out) (H3.out.to.rd.kept K9.out) (Nat.le_refl _))); have HB9 := Lib.hid ((Chg.of_kept (S := fun _ => False) K9.out).heap HB3.out id); obtain ⟨y0, y1, y2⟩ := cells_of HB9.out; clear k9) | (refine step_push rfl _ _ rfl (⟨18, 0, T, [], (l2.length - 1 : Nat), -1, t.place⟩) _ w9 H9.out.to.own H9.out.to.base (by omega) rfl rfl (by simp [exCell]) ?_; intro v5 w5 H5; have HB5 := Lib.hid (H5.out.chg.heap HB9.out (fun hs => by obtain ⟨_, c', hc'⟩ := own_at H9.out.to.own hs; exact ne_of_ty HB9.out hc' (by decide) rfl)); obtain ⟨x0, x1, x2⟩ := cells_of HB5.out))
  go_wp2_with fail
  go_ret
  exact ⟨_, rfl, Lib.hid (HN.out.push2 HH.out H9.out H5.out (by simp) (by omega))⟩
end Go.Proofs.Ythjnkjekidagiaa.Rpr
namespace Go.Proofs.Ythjnkjekidagiaa.Rpr
open Go.RowKit
open Lex (Tok isKeyF)
open Prs

theorem none_dpF {d p : Nat} {dp : Option Nat} (h : dpF d dp p = none) : dp = none ∧ d < 30 := by
  unfold dpF at h
  split at h
  · cases h
  · rename_i h1
    subst h
    simp at h1
    exact ⟨rfl, by omega⟩
theorem unary_step {f : Nat} (HI : ∀ g, g ≤ f → InnerSaid g) (HU : ∀ g, g ≤ f → UnarySaid g) : UnarySaid (f + 1) := by
  intro B G r d v us us' l l' w h hf
  cases us with
  | nil => simp [unaryF] at hf
  | cons t us =>
    simp only [unaryF] at hf
    by_cases h2 : t.kind = 2
    · rw [if_pos h2] at hf
      injection hf with e1 _ e3
      subst e1; subst e3
      exact unary_num w h h2
    rw [if_neg h2] at hf
    by_cases h1 : t.kind = 1
    · rw [if_pos h1] at hf
      cases f with
      | zero => simp [namedF] at hf
      | succ f =>
        cases us with
        | nil => simp [namedF] at hf
        | cons u us =>
          simp only [namedF] at hf
          by_cases hu : u.text = [91]
          · rw [if_pos hu] at hf
            obtain ⟨u1, d1, l2, e1, g1⟩ := bind_ok hf
            injection g1 with q1 q2 q3
            subst q1; subst q2; subst q3
            exact unary_elem (HI f (by omega)) w h h1 rfl (Lib.hid hu) e1
          · rw [if_neg hu] at hf
            injection hf with e1 _ e3
            subst e1; subst e3
            exact unary_var w h h1 rfl (Lib.hid hu)
    rw [if_neg h1] at hf
    by_cases hr : readT t.text ≠ 0
    · rw [if_pos hr] at hf
      obtain ⟨u1, d1, l2, e1, g1⟩ := bind_ok hf
      injection g1 with q1 q2 q3
      subst q1; subst q2; subst q3
      exact unary_cast (HI f (by omega)) w h hr e1
    rw [if_neg hr] at hf
    by_cases ho : t.text = [111, 108, 100]
    · rw [if_pos ho] at hf
      obtain ⟨u1, d1, l2, e1, g1⟩ := bind_ok hf
      injection g1 with q1 q2 q3
      subst q1; subst q2; subst q3
      exact unary_old (HI f (by omega)) w h ho e1
    rw [if_neg ho] at hf
    by_cases hs : t.text = [114, 101, 115, 117, 108, 116]
    · rw [if_pos hs] at hf
      injection hf with e1 _ e3
      subst e1; subst e3
      exact unary_result w h hs
    rw [if_neg hs] at hf
    by_cases hn : t.text = [45]
    · rw [if_pos hn] at hf
      obtain ⟨u1, d1, l2, e1, g1⟩ := bind_ok hf
      injection g1 with q1 q2 q3
      subst q1; subst q2; subst q3
      cases f with
      | zero => simp [signedF] at e1
      | succ f =>
        simp only [signedF] at e1
        have hd : dpF d none t.place = none := none_of_none (fun k hk => by rw [hk] at e1; exact (stays f).unary _ _ _ _ _ _ _ e1) rfl
        rw [hd] at e1
        exact unary_neg (HU f (by omega)) w h hn e1 (none_dpF hd).2
    rw [if_neg hn] at hf
    by_cases hc : t.text = [126]
    · rw [if_pos hc] at hf
      obtain ⟨u1, d1, l2, e1, g1⟩ := bind_ok hf
      injection g1 with q1 q2 q3
      subst q1; subst q2; subst q3
      cases f with
      | zero => simp [signedF] at e1
      | succ f =>
        simp only [signedF] at e1
        have hd : dpF d none t.place = none := none_of_none (fun k hk => by rw [hk] at e1; exact (stays f).unary _ _ _ _ _ _ _ e1) rfl
        rw [hd] at e1
        exact unary_com (HU f (by omega)) w h hc e1 (none_dpF hd).2
    rw [if_neg hc] at hf
    cases f with
    | zero => simp [bracketF] at hf
    | succ f =>
      have ht : t.text = [40] := by
        simp only [bracketF] at hf
        obtain ⟨u1, d1, a1, e1, -⟩ := bind_ok hf
        obtain ⟨t', e, ht, -⟩ := open_ok e1
        injection e with e _
        rw [e]; exact ht
      exact unary_paren (HI (f + 1) (by omega)) w h ht hf

theorem said_all : ∀ f, RowSaid f ∧ UnarySaid f ∧ InnerSaid f := by
  intro f
  induction f using Nat.strongRecOn with
  | ind f ih =>
    cases f with
    | zero =>
      refine ⟨?_, ?_, ?_⟩
      · intro B G r d lvl v us us' l l' w _ _ hf; simp [chainF] at hf
      · intro B G r d v us us' l l' w _ hf; simp [unaryF] at hf
      · intro B G r d v us us' l l' o c w _ _ _ hf; simp [bracketF] at hf
    | succ f =>
      exact ⟨row_step (fun g hg => (ih g (by omega)).1) (ih f (by omega)).2.1, unary_step (fun g hg => (ih g (by omega)).2.2) (fun g hg => (ih g (by omega)).2.1), inner_step (ih f (by omega)).1⟩
end Go.Proofs.Ythjnkjekidagiaa.Rpr
namespace Go.Proofs.Ythjnkjekidagiaa.Rpr
open Lex (Tok)
open Prs

theorem stays_compared {f : Nat} {us us' : List Tok} {d k : Nat} {dp' : Option Nat} {c : Cn} (h : comparedF f us d (some k) = .ok us' dp' c) : dp' = some k := by
  unfold comparedF exprF at h
  obtain ⟨u1, d1, x, h1, h2⟩ := bind_ok h
  obtain rfl := (stays f).chain _ _ _ _ _ _ _ _ h1
  cases u1 with
  | nil => cases h2
  | cons t u2 =>
    simp only at h2
    split at h2
    · cases h2
    · obtain ⟨u3, d3, y, h3, h4⟩ := bind_ok h2
      obtain rfl := (stays f).chain _ _ _ _ _ _ _ _ h3
      injection h4 with _ h4 _; exact h4.symm
/-- What compared comes to, where it goes well. -/
theorem compared_ok {f : Nat} {us us' : List Tok} {d : Nat} {dp dp' : Option Nat} {c : Cn} (h : comparedF f us d dp = .ok us' dp' c) :
    ∃ t us2 dp1 x y, chainF f 0 us d dp [] = .ok (t :: us2) dp1 x ∧ relF t.text ≠ 0 ∧ chainF f 0 us2 d dp1 [] = .ok us' dp' y ∧ c = ⟨1, relF t.text, x, y, -1, -1, t.place⟩ := by
  unfold comparedF exprF at h
  obtain ⟨u1, d1, x, h1, h2⟩ := bind_ok h
  cases u1 with
  | nil => cases h2
  | cons t u2 =>
    simp only at h2
    split at h2
    · cases h2
    · rename_i hr
      obtain ⟨u3, d3, y, h3, h4⟩ := bind_ok h2
      injection h4 with e1 e2 e3
      subst e1; subst e2
      exact ⟨t, u2, d1, x, y, h1, hr, h3, e3.symm⟩
structure StaysC (f : Nat) : Prop where
  one : ∀ us d k l us' dp' l', oneF f us d (some k) l = .ok us' dp' l' → dp' = some k
  both : ∀ us d k l us' dp' l', bothF f us d (some k) l = .ok us' dp' l' → dp' = some k
  bothL : ∀ us d k l us' dp' l', bothL f us d (some k) l = .ok us' dp' l' → dp' = some k
  either : ∀ us d k l us' dp' l', eitherF f us d (some k) l = .ok us' dp' l' → dp' = some k
  eitherL : ∀ us d k l us' dp' l', eitherL f us d (some k) l = .ok us' dp' l' → dp' = some k
theorem staysC : ∀ f, StaysC f
  | 0 => by
    refine ⟨?_, ?_, ?_, ?_, ?_⟩
    · intro us d k l us' dp' l' h; simp [oneF] at h
    · intro us d k l us' dp' l' h; simp [bothF] at h
    · intro us d k l us' dp' l' h; simp [Prs.bothL] at h
    · intro us d k l us' dp' l' h; simp [eitherF] at h
    · intro us d k l us' dp' l' h; simp [Prs.eitherL] at h
  | f + 1 => by
    have ih := staysC f
    refine ⟨?_, ?_, ?_, ?_, ?_⟩
    · intro us d k l us' dp' l' h
      cases us with
      | nil => simp [oneF] at h
      | cons t us =>
        simp only [oneF, dpF_some] at h
        split at h
        · obtain ⟨u1, d1, a, h1, h2⟩ := bind_ok h
          obtain rfl := ih.one _ _ _ _ _ _ _ h1
          injection h2 with _ h2 _; exact h2.symm
        split at h
        · obtain ⟨u1, d1, a, h1, h2⟩ := bind_ok h
          obtain rfl := ih.either _ _ _ _ _ _ _ h1
          obtain ⟨u3, d3, a3, h5, h6⟩ := bind_ok h2
          obtain ⟨e, -⟩ := take_ok h5
          subst e
          injection h6 with _ h2 _; exact h2.symm
        · obtain ⟨u1, d1, a, h1, h2⟩ := bind_ok h
          obtain rfl := stays_compared h1
          injection h2 with _ h2 _; exact h2.symm
    · intro us d k l us' dp' l' h
      simp only [bothF] at h
      obtain ⟨u1, d1, a, h1, h2⟩ := bind_ok h
      obtain rfl := ih.one _ _ _ _ _ _ _ h1
      exact ih.bothL _ _ _ _ _ _ _ h2
    · intro us d k l us' dp' l' h
      cases us with
      | nil => simp [Prs.bothL] at h
      | cons t us =>
        simp only [Prs.bothL] at h
        split at h
        · obtain ⟨u1, d1, a, h1, h2⟩ := bind_ok h
          obtain rfl := ih.one _ _ _ _ _ _ _ h1
          exact ih.bothL _ _ _ _ _ _ _ h2
        · injection h with _ h2 _; exact h2.symm
    · intro us d k l us' dp' l' h
      simp only [eitherF] at h
      obtain ⟨u1, d1, a, h1, h2⟩ := bind_ok h
      obtain rfl := ih.both _ _ _ _ _ _ _ h1
      exact ih.eitherL _ _ _ _ _ _ _ h2
    · intro us d k l us' dp' l' h
      cases us with
      | nil => simp [Prs.eitherL] at h
      | cons t us =>
        simp only [Prs.eitherL] at h
        split at h
        · obtain ⟨u1, d1, a, h1, h2⟩ := bind_ok h
          obtain rfl := ih.both _ _ _ _ _ _ _ h1
          exact ih.eitherL _ _ _ _ _ _ _ h2
        · injection h with _ h2 _; exact h2.symm

def MoC (l : List Cn) (us : List Tok) (l' : List Cn) (us' : List Tok) : Prop := l'.length + us'.length ≤ l.length + us.length ∧ us'.length ≤ us.length
structure GrowsC (f : Nat) : Prop where
  one : ∀ us d dp l us' dp' l', oneF f us d dp l = .ok us' dp' l' → l.length < l'.length ∧ MoC l us l' us'
  both : ∀ us d dp l us' dp' l', bothF f us d dp l = .ok us' dp' l' → l.length < l'.length ∧ MoC l us l' us'
  bothL : ∀ us d dp l us' dp' l', bothL f us d dp l = .ok us' dp' l' → l.length ≤ l'.length ∧ MoC l us l' us'
  either : ∀ us d dp l us' dp' l', eitherF f us d dp l = .ok us' dp' l' → l.length < l'.length ∧ MoC l us l' us'
  eitherL : ∀ us d dp l us' dp' l', eitherL f us d dp l = .ok us' dp' l' → l.length ≤ l'.length ∧ MoC l us l' us'
theorem growsC : ∀ f, GrowsC f
  | 0 => by
    refine ⟨?_, ?_, ?_, ?_, ?_⟩
    · intro us d k l us' dp' l' h; simp [oneF] at h
    · intro us d k l us' dp' l' h; simp [bothF] at h
    · intro us d k l us' dp' l' h; simp [Prs.bothL] at h
    · intro us d k l us' dp' l' h; simp [eitherF] at h
    · intro us d k l us' dp' l' h; simp [Prs.eitherL] at h
  | f + 1 => by
    have ih := growsC f
    refine ⟨?_, ?_, ?_, ?_, ?_⟩
    · intro us d k l us' dp' l' h
      cases us with
      | nil => simp [oneF] at h
      | cons t us =>
        simp only [oneF] at h
        split at h
        · obtain ⟨u1, d1, a, h1, h2⟩ := bind_ok h
          have g := ih.one _ _ _ _ _ _ _ h1
          injection h2 with h1 _ h3; subst h1; subst h3; unfold MoC at *; simp; omega
        split at h
        · obtain ⟨u1, d1, a, h1, h2⟩ := bind_ok h
          have g := ih.either _ _ _ _ _ _ _ h1
          obtain ⟨u3, d3, a3, h5, h6⟩ := bind_ok h2
          obtain ⟨-, t2, rfl, -, -⟩ := take_ok h5
          injection h6 with h1 _ h3; subst h1; subst h3; unfold MoC at *; simp at g ⊢; omega
        · obtain ⟨u1, d1, a, h1, h2⟩ := bind_ok h
          obtain ⟨t, us2, dp1, x, y, e1, e2, e3, e4⟩ := compared_ok h1
          have g1 := (grows f).chain _ _ _ _ _ _ _ _ e1
          have g3 := (grows f).chain _ _ _ _ _ _ _ _ e3
          injection h2 with h1 _ h3; subst h1; subst h3; unfold MoC; unfold Mo at g1 g3; simp at g1 g3 ⊢; omega
    · intro us d k l us' dp' l' h
      simp only [bothF] at h
      obtain ⟨u1, d1, a, h1, h2⟩ := bind_ok h
      have g1 := ih.one _ _ _ _ _ _ _ h1
      have g2 := ih.bothL _ _ _ _ _ _ _ h2
      unfold MoC at *; omega
    · intro us d k l us' dp' l' h
      cases us with
      | nil => simp [Prs.bothL] at h
      | cons t us =>
        simp only [Prs.bothL] at h
        split at h
        · obtain ⟨u1, d1, a, h1, h2⟩ := bind_ok h
          have g1 := ih.one _ _ _ _ _ _ _ h1
          have g2 := ih.bothL _ _ _ _ _ _ _ h2
          unfold MoC at *; simp at g2 ⊢; omega
        · injection h with h1 _ h3; subst h1; subst h3; unfold MoC; omega
    · intro us d k l us' dp' l' h
      simp only [eitherF] at h
      obtain ⟨u1, d1, a, h1, h2⟩ := bind_ok h
      have g1 := ih.both _ _ _ _ _ _ _ h1
      have g2 := ih.eitherL _ _ _ _ _ _ _ h2
      unfold MoC at *; omega
    · intro us d k l us' dp' l' h
      cases us with
      | nil => simp [Prs.eitherL] at h
      | cons t us =>
        simp only [Prs.eitherL] at h
        split at h
        · obtain ⟨u1, d1, a, h1, h2⟩ := bind_ok h
          have g1 := ih.both _ _ _ _ _ _ _ h1
          have g2 := ih.eitherL _ _ _ _ _ _ _ h2
          unfold MoC at *; simp at g2 ⊢; omega
        · injection h with h1 _ h3; subst h1; subst h3; unfold MoC; omega
end Go.Proofs.Ythjnkjekidagiaa.Rpr
namespace Go.Proofs.Ythjnkjekidagiaa.Rpr
open Go.RowKit
open Lex (Tok isKeyF)
open Prs

def cnCell (c : Cn) (x y : Value) : List Value := [.int .i64 c.kind, .int .i64 c.rel, x, y, .int .i64 c.a, .int .i64 c.b, .int .i64 c.place]
/-- The cells xs are those of the conditions l; each has its two lists. -/
def CnCells (w : World) (B : Nat) : List Cn → List Value → Prop
  | [], xs => xs = []
  | c :: l, xs => ∃ x y rest, xs = cnCell c x y ++ rest ∧ w.ownsRow B 146 7 x c.x.length (exCells c.x) ∧ w.ownsRow B 146 7 y c.y.length (exCells c.y) ∧ CnCells w B l rest
def NoEx (w : World) (S : Nat → Prop) : Prop := ∀ g c, w.heap[g]? = some (.cells c 146 (0, 0)) → ¬ S g
theorem own_chg {S : Nat → Prop} {w w' : World} {B n : Nat} {v : Value} {xs : List Value} (h : w.ownsRow B 146 7 v n xs) (hc : Chg S w w') (hn : NoEx w S) : w'.ownsRow B 146 7 v n xs :=
  own_stay h hc fun g hg => by obtain ⟨_, c, hc⟩ := own_at h hg; exact hn g c hc
theorem CnCells.chg {S : Nat → Prop} {w w' : World} {B : Nat} {l : List Cn} {xs : List Value} (h : CnCells w B l xs) (hc : Chg S w w') (hn : NoEx w S) : CnCells w' B l xs := by
  induction l generalizing xs with
  | nil => exact h
  | cons c l ih =>
    obtain ⟨x, y, rest, e, h1, h2, h3⟩ := h
    exact ⟨x, y, rest, e, own_chg h1 hc hn, own_chg h2 hc hn, ih h3⟩
theorem CnCells.snoc {w : World} {B : Nat} {l : List Cn} {xs : List Value} (h : CnCells w B l xs) (c : Cn) {x y : Value} (hx : w.ownsRow B 146 7 x c.x.length (exCells c.x)) (hy : w.ownsRow B 146 7 y c.y.length (exCells c.y)) :
    CnCells w B (l ++ [c]) (xs ++ cnCell c x y) := by
  induction l generalizing xs with
  | nil => obtain rfl : xs = [] := h; exact ⟨x, y, [], by simp, hx, hy, rfl⟩
  | cons c' l ih =>
    obtain ⟨x', y', rest, e, h1, h2, h3⟩ := h
    subst e
    exact ⟨x', y', _, by simp, h1, h2, ih h3⟩
theorem CnCells.len {w : World} {B : Nat} {l : List Cn} {xs : List Value} (h : CnCells w B l xs) : xs.length = 7 * l.length := by
  induction l generalizing xs with
  | nil => obtain rfl : xs = [] := h; rfl
  | cons c l ih =>
    obtain ⟨x, y, rest, e, _, _, h3⟩ := h
    have := ih h3
    subst e; simp [cnCell]; omega
theorem cn_info : (Try.prog.info? 101).map (fun i => (i.zero, i.size, i.bytes)) = some (some (.agg #[.int .i64 0, .int .i64 0, .slice none 0 0, .slice none 0 0, .int .i64 0, .int .i64 0, .int .i64 0]), 7, 88) := by kernel_rfl

/-- A list of conditions has got one more. -/
structure PushedC (B : Nat) (v : Value) (w : World) (l : List Cn) (c : Cn) (w' : World) (v' : Value) : Prop where
  chg : Chg (fun k => v.ownBlock = some k) w w'
  at_ : v'.ownBlock = v.ownBlock ∨ ∃ g, v'.ownBlock = some g ∧ w.heap.size ≤ g
  own : ∃ xs, w'.ownsRow B 101 7 v' (l ++ [c]).length xs ∧ CnCells w' B (l ++ [c]) xs
theorem wpList_pushC {ops : Array Oper} {rest : List Oper} {o : Oper} {a : Act} {Q : Exit → Act → World → Prop} (hgd : o.guard = none) (s x : Operand)
    (ho : o.op = .call { callee := .builtin .append, args := #[s, x], argTypes := #[39, 39] }) {B : Nat} {v : Value} {l : List Cn} {xs : List Value} (c : Cn) (vx vy : Value) (cs : Array Value) (w : World) (hown : w.ownsRow B 101 7 v l.length xs) (hcc : CnCells w B l xs)
    (hvx : w.ownsRow B 146 7 vx c.x.length (exCells c.x)) (hvy : w.ownsRow B 146 7 vy c.y.length (exCells c.y)) (hB : B ≤ w.heap.size) (hl : l.length ≤ 8193) (hs : a.eval s = v) (hx : a.eval x = .slice (some ⟨w.heap.size, 0, none⟩) 1 1) (hc : cs.toList = cnCell c vx vy)
    (h : ∀ v' w', Hid (PushedC B v w l c w' v') → wpList Try.prog ops Q rest (a.put o.dst v') w') : wpList Try.prog ops Q (o :: rest) a (w.alloc (.cells cs 101)) := by
  obtain ⟨i0, hi0, hz0, hz1, hz2⟩ := info_parts cn_info
  have hlen := hcc.len
  obtain ⟨ax, cx, ex⟩ := own_form hvx
  obtain ⟨ay, cy, ey⟩ := own_form hvy
  refine wpList_append_lies _ hgd s x 39 ho B 101 i0 _ 7 88 Try.underlying39 hi0 hz0 hz1 hz2 rfl (by omega) v l.length xs hs (hown.alloc _) ⟨w.heap.size, 0, none⟩ 1 1 (cnCell c vx vy) hx rfl ?_ ?_ (by omega) (by simp only [maxLen]; omega) (by omega) (by simp; omega) (w.heap.size + 1) (by simp) ?_
  · rw [← hc]; exact World.news_of_block (heap_alloc_new w _)
  · simp [cnCell, Value.oneCell', ex, ey]
  · intro g cap w7 hown' hgrow hat hlt
    have hch : Chg (fun k => v.ownBlock = some k) w w7 := ((Chg.refl _ w).alloc _).grown hgrow (fun _ _ h => h)
    have hno : NoEx w (fun k => v.ownBlock = some k) := fun g2 c2 hc2 hs2 => by
      obtain ⟨_, c3, hc3⟩ := own_at hown hs2
      exact ne_of_ty hc2 hc3 (by decide) rfl
    refine h _ _ (Lib.hid ⟨hch, ?_, _, by rw [List.length_append]; exact hown', (hcc.chg hch hno).snoc c (own_chg hvx hch hno) (own_chg hvy hch hno)⟩)
    rcases hat with h | h
    · exact .inl h.symm
    · exact .inr ⟨g, rfl, by omega⟩

structure CIn (B G : Nat) (w : World) (r : Nat) (v : Value) (us : List Tok) (d : Nat) (l : List Cn) : Prop where
  rd : RR B G w r us d
  own : ∃ xs, w.ownsRow B 101 7 v l.length xs ∧ CnCells w B l xs
  sz : l.length + us.length ≤ 8193
/-- Along the way: X are lists of nodes that were read besides. -/
structure COut (B G r : Nat) (v : Value) (w w' : World) (v' : Value) (us' : List Tok) (d : Nat) (l' : List Cn) (X : List (Value × List Ex)) : Prop where
  chg : Chg (fun k => k = r ∨ v.ownBlock = some k) w w'
  at_ : v'.ownBlock = v.ownBlock ∨ ∃ g, v'.ownBlock = some g ∧ w.heap.size ≤ g
  to : CIn B G w' r v' us' d l'
  rows : ∀ p ∈ X, w'.ownsRow B 146 7 p.1 p.2.length (exCells p.2)
section
variable {B G : Nat} {w w1 w2 w' : World} {r : Nat} {v v1 v2 v' : Value} {us us1 us2 us' : List Tok} {d d' d1 : Nat} {l l1 l2 l' : List Cn} {X : List (Value × List Ex)}
theorem CIn.base (h : CIn B G w r v us d l) : B ≤ w.heap.size := by have := h.rd.above; have := h.rd.lt; omega
theorem CIn.form (h : CIn B G w r v us d l) : ∃ a c, v = .slice a l.length c := by obtain ⟨xs, h1, _⟩ := h.own; exact own_form h1
theorem CIn.at_ (h : CIn B G w r v us d l) {g : Nat} (hg : v.ownBlock = some g) : B ≤ g ∧ ∃ c, w.heap[g]? = some (.cells c 101 (0, 0)) := by
  obtain ⟨xs, h1, _⟩ := h.own
  exact own_at h1 hg
theorem CIn.no (h : CIn B G w r v us d l) {g : Nat} (hg : v.ownBlock = some g) : g ≠ r ∧ g ≠ G := by
  obtain ⟨_, c, hc⟩ := h.at_ hg
  exact h.rd.apart hc (by decide) (by decide)
theorem CIn.noEx (h : CIn B G w r v us d l) : NoEx w (fun k => k = r ∨ v.ownBlock = some k) := fun g c hc hs => by
  rcases hs with rfl | hs
  · exact (h.rd.apart hc (by decide) (by decide)).1 rfl
  · obtain ⟨_, c3, hc3⟩ := h.at_ hs
    exact ne_of_ty hc hc3 (by decide) rfl
theorem CIn.reader (h : CIn B G w r v us d l) (hc : Chg (fun k => k = r) w w') (hr : RR B G w' r us' d') (hs : us'.length ≤ us.length) : CIn B G w' r v us' d' l := by
  obtain ⟨xs, h1, h2⟩ := h.own
  exact ⟨hr, ⟨xs, own_stay h1 hc (fun _ hg => (h.no hg).1), h2.chg hc fun g c hc hs => h.noEx g c hc (.inl hs)⟩, by have := h.sz; omega⟩
theorem CIn.kept (h : CIn B G w r v us d l) (hk : Kept w w') : CIn B G w' r v us d l := h.reader (Chg.of_kept hk) (h.rd.kept hk) (Nat.le_refl _)
theorem COut.refl (h : CIn B G w r v us d l) : COut B G r v w w v us d l [] := ⟨Chg.refl _ _, .inl rfl, h, by simp⟩
theorem COut.reader (h : COut B G r v w w1 v1 us1 d1 l1 X) (hc : Chg (fun k => k = r) w1 w') (hr : RR B G w' r us' d') (hs : us'.length ≤ us1.length) : COut B G r v w w' v1 us' d' l1 X :=
  ⟨h.chg.trans hc fun _ _ e => .inl e, h.at_, h.to.reader hc hr hs, fun p hp => own_chg (h.rows p hp) hc fun g c hc hs => h.to.noEx g c hc (.inl hs)⟩
theorem COut.kept (h : COut B G r v w w1 v1 us1 d1 l1 X) (hk : Kept w1 w') : COut B G r v w w' v1 us1 d1 l1 X := h.reader (Chg.of_kept hk) (h.to.rd.kept hk) (Nat.le_refl _)
theorem COut.trans {Y : List (Value × List Ex)} (h : COut B G r v w w1 v1 us1 d1 l1 X) (k : COut B G r v1 w1 w2 v2 us2 d' l2 Y) : COut B G r v w w2 v2 us2 d' l2 X := by
  refine ⟨h.chg.trans k.chg fun i hi hs => ?_, ?_, k.to, fun p hp => own_chg (h.rows p hp) k.chg h.to.noEx⟩
  · rcases hs with hs | hs
    · exact .inl hs
    · rcases h.at_ with e | ⟨g, e, hg⟩
      · exact .inr (e ▸ hs)
      · rw [e] at hs; injection hs with hs; omega
  · rcases k.at_ with e | ⟨g, e, hg⟩
    · rcases h.at_ with e' | h'
      · exact .inl (e.trans e')
      · exact .inr (e ▸ h')
    · exact .inr ⟨g, e, Nat.le_trans h.chg.size hg⟩
theorem COut.push {c : Cn} (h : COut B G r v w w1 v1 us1 d1 l1 X) (hp : PushedC B v1 w1 l1 c w' v') (hsz : l1.length + 1 + us1.length ≤ 8193) : COut B G r v w w' v' us1 d1 (l1 ++ [c]) [] :=
  h.trans (Y := []) ⟨hp.chg.mono fun _ _ e => .inr e, hp.at_, ⟨h.to.rd.chg hp.chg (fun _ hk => h.to.no hk), hp.own, by simp; omega⟩, by simp⟩ |> fun k => ⟨k.chg, k.at_, k.to, by simp⟩
theorem COut.drop (h : COut B G r v w w1 v1 us1 d1 l1 X) : COut B G r v w w1 v1 us1 d1 l1 [] := ⟨h.chg, h.at_, h.to, by simp⟩
/-- A list of nodes is read besides. -/
theorem COut.expr {lx : List Ex} {vx : Value} (h : COut B G r v w w1 v1 us1 d1 l1 X) (k : EOut B G r (.slice none 0 0) w1 w' vx us' d1 lx) (hs : us'.length ≤ us1.length) : COut B G r v w w' v1 us' d1 l1 ((vx, lx) :: X) := by
  have hc : Chg (fun k => k = r) w1 w' := k.chg.mono fun i _ hs => by
    rcases hs with hs | hs
    · exact hs
    · simp [Value.ownBlock] at hs
  have h2 := h.reader hc k.to.rd hs
  refine ⟨h2.chg, h2.at_, h2.to, fun p hp => ?_⟩
  rcases List.mem_cons.1 hp with rfl | hp
  · exact k.to.own
  · exact h2.rows p hp
end

section
variable {B G : Nat} {w wc : World} {r : Nat} {v v1 : Value} {t : Tok} {us : List Tok} {d : Nat} {l : List Cn} {X : List (Value × List Ex)} {s : List UInt8}
theorem c_here (h : COut B G r v w wc v1 (t :: us) d l X) : Calls Try.prog 51 #[.pointer (some ⟨r, 0, none⟩)] wc fun e w' => e = .returned (.int .i64 t.place) ∧ Hid (COut B G r v w w' v1 (t :: us) d l X) :=
  (here_any wc h.to.rd).mono fun _ _ ⟨h1, h2⟩ => ⟨h1, Lib.hid (h.kept h2)⟩
theorem c_is_no (h : COut B G r v w wc v1 (t :: us) d l X) (hs : isKeyF s = true ∨ isSg s = true) (ht : t.text ≠ s) : Calls Try.prog 50 #[.pointer (some ⟨r, 0, none⟩), .string ⟨s.toArray⟩] wc fun e w' => e = .returned (.bool false) ∧ Hid (COut B G r v w w' v1 (t :: us) d l X) :=
  (is_no wc h.to.rd hs ht).mono fun _ _ ⟨h1, h2⟩ => ⟨h1, Lib.hid (h.kept h2)⟩
theorem c_is_yes (h : COut B G r v w wc v1 (t :: us) d l X) (hs : isKeyF s = true ∨ isSg s = true) (ht : t.text = s) : Calls Try.prog 50 #[.pointer (some ⟨r, 0, none⟩), .string ⟨s.toArray⟩] wc fun e w' => e = .returned (.bool true) ∧ Hid (COut B G r v w w' v1 (t :: us) d l X) :=
  (is_yes wc h.to.rd hs ht).mono fun _ _ ⟨h1, h2⟩ => ⟨h1, Lib.hid (h.kept h2)⟩
theorem c_open (h : COut B G r v w wc v1 (t :: us) d l X) (hs : isKeyF s = true ∨ isSg s = true) (ht : t.text = s) (hd : d < 30) : Calls Try.prog 70 #[.pointer (some ⟨r, 0, none⟩), .string ⟨s.toArray⟩] wc fun e w' => e = .returned (.tuple #[]) ∧ Hid (COut B G r v w w' v1 us (d + 1) l X) :=
  (open_yes wc h.to.rd hs ht hd).mono fun _ _ ⟨h1, h2⟩ => ⟨h1, Lib.hid (h.reader h2.out.1 h2.out.2 (by simp))⟩
theorem c_want (h : COut B G r v w wc v1 (t :: us) d l X) (hs : isKeyF s = true ∨ isSg s = true) (ht : t.text = s) : Calls Try.prog 52 #[.pointer (some ⟨r, 0, none⟩), .string ⟨s.toArray⟩] wc fun e w' => e = .returned (.tuple #[]) ∧ Hid (COut B G r v w w' v1 us d l X) :=
  (want_yes wc h.to.rd hs ht).mono fun _ _ ⟨h1, h2⟩ => ⟨h1, Lib.hid (h.reader h2.out.1 h2.out.2 (by simp))⟩
theorem COut.next {p : Nat} (h : COut B G r v w wc v1 (t :: us) d l X) (hp : wc.cell? ⟨r, 1, none⟩ = some (.int .i64 (p : Nat))) : COut B G r v w (wc.setCell ⟨r, 1, none⟩ (.int .i64 ((p : Int) + 1))) v1 us d l X :=
  have hx := h.to.rd.next hp
  h.reader hx.2 hx.1 (by simp)
theorem COut.dive (d' : Nat) (h : COut B G r v w wc v1 us d l X) (hd : d' ≤ 10000) : COut B G r v w (wc.setCell ⟨r, 2, none⟩ (.int .i64 d')) v1 us d' l X :=
  have hx := h.to.rd.dive d' hd
  h.reader hx.2 hx.1 (Nat.le_refl _)
theorem c_expr {f : Nat} {us' : List Tok} {lx : List Ex} (HR : RowSaid f) (h : COut B G r v w wc v1 us d l X) (hf : chainF f 0 us d none [] = .ok us' none lx) (hus : us.length ≤ 8193) : Calls Try.prog 71 #[.pointer (some ⟨r, 0, none⟩), .slice none 0 0] wc fun e w' => ∃ vx, e = .returned vx ∧ Hid (COut B G r v w w' v1 us' d l ((vx, lx) :: X)) := by
  have h0 : EIn B G wc r (.slice none 0 0) us d [] := ⟨h.to.rd, World.ownsRow_nil _ _ _ _, by simpa using hus⟩
  have hg := ((grows f).chain _ _ _ _ _ _ _ _ hf).2.2
  exact (expr_of HR wc h0 hf).mono fun _ _ ⟨vx, h1, h2⟩ => ⟨vx, h1, Lib.hid (h.expr h2.out hg)⟩
end

def OneSaid (f : Nat) : Prop := ∀ {B G r d : Nat} {v v0 : Value} {us us' : List Tok} {l l' : List Cn} {X : List (Value × List Ex)} (w0 w : World), COut B G r v0 w0 w v us d l X → oneF f us d none l = .ok us' none l' →
  Calls Try.prog 63 #[.pointer (some ⟨r, 0, none⟩), v] w fun e w' => ∃ v', e = .returned v' ∧ Hid (COut B G r v0 w0 w' v' us' d l' [])
def BothSaid (f : Nat) : Prop := ∀ {B G r d : Nat} {v v0 : Value} {us us' : List Tok} {l l' : List Cn} {X : List (Value × List Ex)} (w0 w : World), COut B G r v0 w0 w v us d l X → bothF f us d none l = .ok us' none l' →
  Calls Try.prog 49 #[.pointer (some ⟨r, 0, none⟩), v] w fun e w' => ∃ v', e = .returned v' ∧ Hid (COut B G r v0 w0 w' v' us' d l' [])
def EitherSaid (f : Nat) : Prop := ∀ {B G r d : Nat} {v v0 : Value} {us us' : List Tok} {l l' : List Cn} {X : List (Value × List Ex)} (w0 w : World), COut B G r v0 w0 w v us d l X → eitherF f us d none l = .ok us' none l' →
  Calls Try.prog 31 #[.pointer (some ⟨r, 0, none⟩), v] w fun e w' => ∃ v', e = .returned v' ∧ Hid (COut B G r v0 w0 w' v' us' d l' [])

def relT : Nat → List UInt8
  | 1 => [61, 61] | 2 => [33, 61] | 3 => [60] | 4 => [60, 61] | 5 => [62] | 6 => [62, 61] | _ => []
theorem rel_at (k : Nat) (h1 : 1 ≤ k) (h6 : k ≤ 6) : relF (relT k) = k := by
  rcases (show k = 1 ∨ k = 2 ∨ k = 3 ∨ k = 4 ∨ k = 5 ∨ k = 6 by omega) with rfl | rfl | rfl | rfl | rfl | rfl <;> rfl
theorem rel_none {s : List UInt8} (h : ∀ j, 1 ≤ j → j < 7 → relT j ≠ s) : relF s = 0 := by
  unfold relF
  have h1 := h 1 (by omega) (by omega)
  have h2 := h 2 (by omega) (by omega)
  have h3 := h 3 (by omega) (by omega)
  have h4 := h 4 (by omega) (by omega)
  have h5 := h 5 (by omega) (by omega)
  have h6 := h 6 (by omega) (by omega)
  simp only [relT] at h1 h2 h3 h4 h5 h6
  rw [if_neg (Ne.symm h1), if_neg (Ne.symm h2), if_neg (Ne.symm h3), if_neg (Ne.symm h4), if_neg (Ne.symm h5), if_neg (Ne.symm h6)]
theorem rel_sg {s : List UInt8} (h : relF s ≠ 0) : isSg s = true ∧ relF s ≤ 6 := by
  unfold relF at h ⊢
  repeat' split at h
  all_goals first | (rename_i e; subst e; decide) | exact absurd rfl h
end Go.Proofs.Ythjnkjekidagiaa.Rpr
namespace Go.Proofs.Ythjnkjekidagiaa.Rpr
open Go.RowKit
open Lex (Tok isKeyF)
open Prs

set_option maxRecDepth 100000 in
set_option maxHeartbeats 1000000 in
theorem rrel_any (s : List UInt8) (w : World) : Calls Try.prog 72 #[.string ⟨s.toArray⟩] w fun e w' => e = .returned (.int .i64 (relF s)) ∧ Kept w w' := by
  go_enter Try.func72, Try.ntmps72
  go_wp2
  go_loopw [4] (fun i wx => ∃ k : Nat, 1 ≤ k ∧ k ≤ 7 ∧ i = .int .i64 k ∧ wx = w.alloc (.cells #[.string ⟨#[]⟩, .string ⟨#[61, 61]⟩, .string ⟨#[33, 61]⟩, .string ⟨#[60]⟩, .string ⟨#[60, 61]⟩, .string ⟨#[62]⟩, .string ⟨#[62, 61]⟩] 9) ∧ Hid (∀ j, 1 ≤ j → j < k → relT j ≠ s)) (fun i _ => 7 - (intOf i).toNat)
  case atStart => exact ⟨1, by omega, by omega, rfl, rfl, Lib.hid fun j h1 h2 => by omega⟩
  case round =>
    obtain ⟨k, h1, h7, rfl, rfl, hall⟩ := hrel
    rcases (show k = 7 ∨ k = 1 ∨ k = 2 ∨ k = 3 ∨ k = 4 ∨ k = 5 ∨ k = 6 by omega) with rfl | rfl | rfl | rfl | rfl | rfl | rfl
    · go_wp2
      go_ret
      exact ⟨by rw [rel_none hall.out]; rfl, (Kept.refl w).alloc _⟩
    · go_wp2
      · go_ret
        have he : relT 1 = s := beq_iff_eq.1 (by assumption)
        subst he
        exact ⟨rfl, (Kept.refl w).alloc _⟩
      · have hne : relT 1 ≠ s := beq_eq_false_iff_ne.1 (by assumption)
        refine ⟨⟨2, by omega, by omega, rfl, trivial, Lib.hid fun j a b => ?_⟩, by simp [intOf]⟩
        by_cases hj : j = 1
        · subst hj; exact hne
        · exact hall.out j a (by omega)
    · go_wp2
      · go_ret
        have he : relT 2 = s := beq_iff_eq.1 (by assumption)
        subst he
        exact ⟨rfl, (Kept.refl w).alloc _⟩
      · have hne : relT 2 ≠ s := beq_eq_false_iff_ne.1 (by assumption)
        refine ⟨⟨3, by omega, by omega, rfl, trivial, Lib.hid fun j a b => ?_⟩, by simp [intOf]⟩
        by_cases hj : j = 2
        · subst hj; exact hne
        · exact hall.out j a (by omega)
    · go_wp2
      · go_ret
        have he : relT 3 = s := beq_iff_eq.1 (by assumption)
        subst he
        exact ⟨rfl, (Kept.refl w).alloc _⟩
      · have hne : relT 3 ≠ s := beq_eq_false_iff_ne.1 (by assumption)
        refine ⟨⟨4, by omega, by omega, rfl, trivial, Lib.hid fun j a b => ?_⟩, by simp [intOf]⟩
        by_cases hj : j = 3
        · subst hj; exact hne
        · exact hall.out j a (by omega)
    · go_wp2
      · go_ret
        have he : relT 4 = s := beq_iff_eq.1 (by assumption)
        subst he
        exact ⟨rfl, (Kept.refl w).alloc _⟩
      · have hne : relT 4 ≠ s := beq_eq_false_iff_ne.1 (by assumption)
        refine ⟨⟨5, by omega, by omega, rfl, trivial, Lib.hid fun j a b => ?_⟩, by simp [intOf]⟩
        by_cases hj : j = 4
        · subst hj; exact hne
        · exact hall.out j a (by omega)
    · go_wp2
      · go_ret
        have he : relT 5 = s := beq_iff_eq.1 (by assumption)
        subst he
        exact ⟨rfl, (Kept.refl w).alloc _⟩
      · have hne : relT 5 ≠ s := beq_eq_false_iff_ne.1 (by assumption)
        refine ⟨⟨6, by omega, by omega, rfl, trivial, Lib.hid fun j a b => ?_⟩, by simp [intOf]⟩
        by_cases hj : j = 5
        · subst hj; exact hne
        · exact hall.out j a (by omega)
    · go_wp2
      · go_ret
        have he : relT 6 = s := beq_iff_eq.1 (by assumption)
        subst he
        exact ⟨rfl, (Kept.refl w).alloc _⟩
      · have hne : relT 6 ≠ s := beq_eq_false_iff_ne.1 (by assumption)
        refine ⟨⟨7, by omega, by omega, rfl, trivial, Lib.hid fun j a b => ?_⟩, by simp [intOf]⟩
        by_cases hj : j = 6
        · subst hj; exact hne
        · exact hall.out j a (by omega)
set_option maxRecDepth 100000 in
set_option maxHeartbeats 4000000 in
theorem one_not {f : Nat} (HOne : OneSaid f) {B G r d : Nat} {v v0 : Value} {t : Tok} {us us2 : List Tok} {l l2 : List Cn} {X : List (Value × List Ex)} (w0 w : World) (h : COut B G r v0 w0 w v (t :: us) d l X) (ht : t.text = [110, 111, 116]) (hd : d < 30) (hb : oneF f us (d + 1) none l = .ok us2 none l2) :
    Calls Try.prog 63 #[.pointer (some ⟨r, 0, none⟩), v] w fun e w' => ∃ v', e = .returned v' ∧ Hid (COut B G r v0 w0 w' v' us2 d (l2 ++ [⟨2, 0, [], [], (l2.length - 1 : Nat), -1, t.place⟩]) []) := by
  have hgr := (growsC f).one _ _ _ _ _ _ _ hb
  unfold MoC at hgr
  have Hb := Lib.hid hb
  have Ht := Lib.hid ht
  clear hb ht
  have HC := Lib.hid h
  have hsz := h.to.sz
  simp only [List.length_cons] at hsz
  obtain ⟨aa, cc, rfl⟩ := h.to.form
  obtain ⟨n, cap, p, c0, c1, c2, c3, f1, f2, hp, hn, hm, h8, hr, hG, k0, k1, k2⟩ := h.to.rd.head
  clear h c0 c1 c2 f1 f2 hp hn hm h8 hr hG k0 k1 k2
  go_enter Try.func63, Try.ntmps63
  go_upto_region 7 with (first | (go_at_call 51; refine (c_here HC.out).mono ?_; clear HC; rintro e wh ⟨rfl, HC⟩) | (go_at_call 50; refine (c_is_yes HC.out (by decide) Ht.out).mono ?_; clear HC; rintro e wi ⟨rfl, HC⟩) | (go_at_call 70; refine (c_open HC.out (by decide) Ht.out hd).mono ?_; clear HC; rintro e wo ⟨rfl, HC⟩) | (go_at_call 63; refine (HOne _ _ HC.out Hb.out).mono ?_; clear HC; rintro e w4 ⟨v4, rfl, HC⟩; obtain ⟨a4, k4, rfl⟩ := HC.out.to.form))
  obtain ⟨x1, x2, x3⟩ := HC.out.to.rd.deep_cell
  have HD := Lib.hid (HC.out.dive d (by have := HC.out.to.rd.deep; omega))
  have hdd : (((d + 1 : Nat) : Int) - 1) = d := by omega
  have hdd' : ((d : Int) + 1 - 1) = d := by omega
  go_upto_region 8 with fail
  generalize w4.setCell ⟨r, 2, none⟩ (.int .i64 d) = wd at *
  clear x1 x2 x3 HC
  obtain ⟨xs, hx⟩ := HD.out.to.own
  have HO := Lib.hid hx
  clear hx
  go_wp2_with (at_builtin; refine wpList_pushC rfl _ _ rfl (⟨2, 0, [], [], (l2.length - 1 : Nat), -1, t.place⟩) (.slice none 0 0) (.slice none 0 0) _ _ HO.out.1 HO.out.2 (World.ownsRow_nil _ _ _ _) (World.ownsRow_nil _ _ _ _) HD.out.to.base (by omega) rfl rfl (by simp [cnCell]; try omega) ?_; intro v6 w6 H6)
  go_ret
  exact ⟨_, rfl, Lib.hid (HD.out.push H6.out (by omega))⟩
set_option maxRecDepth 100000 in
set_option maxHeartbeats 4000000 in
theorem one_in {f : Nat} (HE : EitherSaid f) {B G r d : Nat} {v v0 : Value} {t t3 : Tok} {us us2 : List Tok} {l l2 : List Cn} {X : List (Value × List Ex)} (w0 w : World) (h : COut B G r v0 w0 w v (t :: us) d l X) (ht : t.text = [91]) (hd : d < 30) (hb : eitherF f us (d + 1) none l = .ok (t3 :: us2) none l2) (ht3 : t3.text = [93]) :
    Calls Try.prog 63 #[.pointer (some ⟨r, 0, none⟩), v] w fun e w' => ∃ v', e = .returned v' ∧ Hid (COut B G r v0 w0 w' v' us2 d (l2) []) := by
  have n1 : t.text ≠ [110, 111, 116] := by rw [ht]; decide
  have Hb := Lib.hid hb
  have Ht := Lib.hid ht
  have Ht3 := Lib.hid ht3
  clear hb ht ht3
  have HC := Lib.hid h
  have hsz := h.to.sz
  simp only [List.length_cons] at hsz
  obtain ⟨aa, cc, rfl⟩ := h.to.form
  obtain ⟨n, cap, p, c0, c1, c2, c3, f1, f2, hp, hn, hm, h8, hr, hG, k0, k1, k2⟩ := h.to.rd.head
  clear h c0 c1 c2 f1 f2 hp hn hm h8 hr hG k0 k1 k2
  go_enter Try.func63, Try.ntmps63
  go_upto_region 13 with (first | (go_at_call 51; refine (c_here HC.out).mono ?_; clear HC; rintro e wh ⟨rfl, HC⟩) | (go_at_call 50; refine (c_is_no HC.out (by decide) (by assumption)).mono ?_; clear HC; rintro e wi ⟨rfl, HC⟩) | (go_at_call 50; refine (c_is_yes HC.out (by decide) Ht.out).mono ?_; clear HC; rintro e wi ⟨rfl, HC⟩) | (go_at_call 70; refine (c_open HC.out (by decide) Ht.out hd).mono ?_; clear HC; rintro e wo ⟨rfl, HC⟩) | (go_at_call 31; refine (HE _ _ HC.out Hb.out).mono ?_; clear HC; rintro e w4 ⟨v4, rfl, HC⟩; obtain ⟨a4, k4, rfl⟩ := HC.out.to.form) | (go_at_call 52; refine (c_want HC.out (by decide) Ht3.out).mono ?_; clear HC; rintro e w5 ⟨rfl, HC⟩))
  obtain ⟨x1, x2, x3⟩ := HC.out.to.rd.deep_cell
  have HD := Lib.hid (HC.out.dive d (by have := HC.out.to.rd.deep; omega))
  have hdd : (((d + 1 : Nat) : Int) - 1) = d := by omega
  have hdd' : ((d : Int) + 1 - 1) = d := by omega
  go_upto_region 14 with fail
  generalize w5.setCell ⟨r, 2, none⟩ (.int .i64 d) = wd at *
  clear x1 x2 x3 HC
  go_wp2_with fail
  go_ret
  exact ⟨_, rfl, HD⟩
set_option maxRecDepth 100000 in
set_option maxHeartbeats 4000000 in
theorem one_rel {f : Nat} (HR : RowSaid f) {B G r d : Nat} {v v0 : Value} {t t2 : Tok} {us us1 us2 : List Tok} {l : List Cn} {X : List (Value × List Ex)} (w0 w : World) (h : COut B G r v0 w0 w v (t :: us) d l X) {lx ly : List Ex} (n1 : t.text ≠ [110, 111, 116]) (n2 : t.text ≠ [91]) (e1 : chainF f 0 (t :: us) d none [] = .ok (t2 :: us1) none lx) (hr0 : relF t2.text ≠ 0) (e3 : chainF f 0 us1 d none [] = .ok us2 none ly) :
    Calls Try.prog 63 #[.pointer (some ⟨r, 0, none⟩), v] w fun e w' => ∃ v', e = .returned v' ∧ Hid (COut B G r v0 w0 w' v' us2 d (l ++ [⟨1, relF t2.text, lx, ly, -1, -1, t2.place⟩]) []) := by
  have g1 := ((grows f).chain _ _ _ _ _ _ _ _ e1).2
  have g3 := ((grows f).chain _ _ _ _ _ _ _ _ e3).2
  unfold Mo at g1 g3
  simp only [List.length_cons, List.length_nil] at g1 g3
  have Hx := Lib.hid e1
  have Hy := Lib.hid e3
  have HL := Lib.hid (fun w => rrel_any t2.text w)
  obtain ⟨hsg, hr6⟩ := rel_sg hr0
  have Hsg := Lib.hid hsg
  generalize hn0 : relF t2.text = nr at *
  have hnb : ((nr : Int) == 0) = false := by simp; omega
  have hnb' : ¬ ((nr : Int) = 0) := by omega
  clear e1 e3 hr0 hn0 hsg
  have HC := Lib.hid h
  have hsz := h.to.sz
  simp only [List.length_cons] at hsz
  obtain ⟨aa, cc, rfl⟩ := h.to.form
  obtain ⟨n, cap, p, c0, c1, c2, c3, f1, f2, hp, hn, hm, h8, hr, hG, k0, k1, k2⟩ := h.to.rd.head
  clear h c0 c1 c2 f1 f2 hp hn hm h8 hr hG k0 k1 k2
  have hu8 : (t :: us).length ≤ 8193 := by simp only [List.length_cons]; omega
  go_enter Try.func63, Try.ntmps63
  go_upto_region 15 with (first | (go_at_call 51; refine (c_here HC.out).mono ?_; clear HC; rintro e wh ⟨rfl, HC⟩) | (go_at_call 50; refine (c_is_no HC.out (by decide) (by assumption)).mono ?_; clear HC; rintro e wi ⟨rfl, HC⟩))
  go_upto_region 16 with (go_at_call 71; refine (c_expr HR HC.out Hx.out hu8).mono ?_; clear HC; rintro e w4 ⟨vx, rfl, HC⟩)
  go_upto_region 17 with (go_at_call 51; refine (c_here HC.out).mono ?_; clear HC; rintro e wh ⟨rfl, HC⟩)
  obtain ⟨n, cap, p, c0, c1, c2, c3', f1, f2, hp, hn, hm, h8, hr, hG, k0, k1, k2⟩ := HC.out.to.rd.head
  have hk4 := (HC.out.to.rd.good t2 (by simp)).2.2.2.1
  have hk4 : t2.kind = 4 := by
    rcases hk4 with q | q | q
    · have := key_sg q.2; rw [Hsg.out] at this; cases this
    · exact q.1
    · rw [Hsg.out] at q; exact absurd q.2.2.2 (by decide)
  have Hk4 := Lib.hid hk4
  clear hk4
  simp only [maxLen] at hm
  go_region_held3 (fun w' => w'.cell? ⟨r, 0, none⟩ = some (.slice (some ⟨G, 0, none⟩) n cap) ∧ w'.cell? ⟨r, 1, none⟩ = some (.int .i64 (p : Nat)) ∧ w'.cell? ⟨G, p * 3 + 1, none⟩ = some (.string ⟨t2.text.toArray⟩))
    (first | go_keep | exact ⟨b0, b1, b2⟩)
    (first | (go_at_call 72; refine (HL.out _).mono ?_; rintro e w7 ⟨rfl, k7⟩; have HC7 := Lib.hid (HC.out.kept ((Kept.refl wh).drew.trans k7)); obtain ⟨n', cap', p', b0, b1, b2', b3, f1', f2', hp', hn', hm', h8', hr', hG', b4, b2, b6⟩ := HC7.out.to.rd.head; obtain ⟨e1, e2, e3⟩ : n' = n ∧ cap' = cap ∧ p' = p := by { have y0 := (World.cell?_of_block (((Kept.refl wh).drew.trans k7).block _ hr)).trans c0; have y1 := (World.cell?_of_block (((Kept.refl wh).drew.trans k7).block _ hr)).trans c1; rw [b0] at y0; rw [b1] at y1; injection y0 with y0; injection y0 with _ y0 y2; injection y1 with y1; injection y1 with _ y1; omega }; subst e1; subst e2; subst e3; clear k7))
  rw [Hk4.out] at b4
  go_wp2
  go_region
  have HD := Lib.hid (HC7.out.next b1)
  go_upto_region 22 with fail
  generalize w7.setCell ⟨r, 1, none⟩ (.int .i64 ((p' : Int) + 1)) = w8 at *
  clear c0 c1 c2 c3' f1 f2 hp hn hm h8 hr hG k0 k1 k2 b0 b1 b2 b2' b3 f1' f2' hp' hn' hm' h8' hr' hG' b4 b6 HC HC7
  have HE := Lib.hid (HD.out.kept (Kept.refl w8).drew)
  clear HD
  generalize w8.drew = w9 at *
  go_upto_region 23 with (go_at_call 71; refine (c_expr HR HE.out Hy.out (by omega)).mono ?_; rintro e w10 ⟨vy, rfl, HF⟩)
  obtain ⟨xs, hx⟩ := HF.out.to.own
  have HO := Lib.hid hx
  have rx := HF.out.rows (vx, lx) (by simp)
  have ry := HF.out.rows (vy, ly) (by simp)
  obtain ⟨ax, kx, ex⟩ := own_form rx
  obtain ⟨ay, ky, ey⟩ := own_form ry
  simp only at ex ey rx ry
  subst ex; subst ey
  have RX := Lib.hid rx
  have RY := Lib.hid ry
  clear hx rx ry
  go_wp2_with (at_builtin; refine wpList_pushC rfl _ _ rfl (⟨1, nr, lx, ly, -1, -1, t2.place⟩) (.slice ax lx.length kx) (.slice ay ly.length ky) _ _ HO.out.1 HO.out.2 RX.out RY.out HF.out.to.base (by omega) rfl rfl (by simp [cnCell]; try omega) ?_; intro v6 w6 H6)
  go_ret
  exact ⟨_, rfl, Lib.hid (HF.out.push H6.out (by omega))⟩
theorem one_step {f : Nat} (HR : RowSaid f) (HE : EitherSaid f) (HOne : OneSaid f) : OneSaid (f + 1) := by
  intro B G r d v v0 us us' l l' X w0 w h hf
  cases us with
  | nil => simp [oneF] at hf
  | cons t us =>
    simp only [oneF] at hf
    by_cases hn : t.text = [110, 111, 116]
    · rw [if_pos hn] at hf
      obtain ⟨u1, d1, l2, e1, g1⟩ := bind_ok hf
      injection g1 with q1 q2 q3
      subst q1; subst q2; subst q3
      have hd : dpF d none t.place = none := none_of_none (fun k hk => by rw [hk] at e1; exact (staysC f).one _ _ _ _ _ _ _ e1) rfl
      rw [hd] at e1
      exact one_not HOne w0 w h hn (none_dpF hd).2 e1
    rw [if_neg hn] at hf
    by_cases hb : t.text = [91]
    · rw [if_pos hb] at hf
      obtain ⟨u1, d1, l2, e1, g1⟩ := bind_ok hf
      obtain ⟨u3, d3, a3, h5, h6⟩ := bind_ok g1
      obtain ⟨e, t3, e2, e3, -⟩ := take_ok h5
      injection h6 with q1 q2 q3
      subst e2; subst q1; subst q2; subst q3; subst e
      have hd : dpF d none t.place = none := none_of_none (fun k hk => by rw [hk] at e1; exact (staysC f).either _ _ _ _ _ _ _ e1) rfl
      rw [hd] at e1
      exact one_in HE w0 w h hb (none_dpF hd).2 e1 e3
    rw [if_neg hb] at hf
    obtain ⟨u1, d1, c, e1, g1⟩ := bind_ok hf
    injection g1 with q1 q2 q3
    subst q1; subst q2; subst q3
    obtain ⟨t2, us1, dp1, lx, ly, k1, k2, k3, k4⟩ := compared_ok e1
    have hd : dp1 = none := none_of_none (fun k hk => by rw [hk] at k3; exact (stays f).chain _ _ _ _ _ _ _ _ k3) rfl
    subst hd; subst k4
    exact one_rel HR w0 w h hn hb k1 k2 k3

/-- What stands at the head of each round. -/
structure BothSaidAt (B G r d f : Nat) (v0 : Value) (w0 : World) (us' : List Tok) (l' : List Cn) (wx : World) (vc : Value) (fc : Nat) (uc : List Tok) (lc : List Cn) : Prop where
  out : COut B G r v0 w0 wx vc uc d lc []
  eq : bothL fc uc d none lc = .ok us' none l'
  le : fc ≤ f
  pos : 0 < lc.length
set_option maxRecDepth 100000 in
set_option maxHeartbeats 4000000 in
theorem both_step {f : Nat} (HCs : ∀ g, g ≤ f → OneSaid g) : BothSaid (f + 1) := by
  intro B G r d v v0 us us' l l' X w0 w h hf
  simp only [bothF] at hf
  obtain ⟨u1, d1, l1, e1, g1⟩ := bind_ok hf
  have hd1 : d1 = none := none_of_none (fun k hk => by subst hk; exact (staysC f).bothL _ _ _ _ _ _ _ g1) rfl
  subst hd1
  have HCH := Lib.hid HCs
  have HX := Lib.hid (HCs f (Nat.le_refl _) w0 w h e1)
  have HL := Lib.hid g1
  have HG := Lib.hid ((growsC f).one _ _ _ _ _ _ _ e1)
  clear h e1 g1 hf HCs
  go_enter Try.func49, Try.ntmps49
  go_wp2_with (first | (go_at_call 63; refine (HX.out).mono ?_; rintro e w1 ⟨v1, rfl, H1⟩))
  go_loopg [1, 5, 6] u1.length (fun k x _ _ wx => ∃ fc uc lc, k = uc.length ∧ BothSaidAt B G r d f v0 w0 us' l' wx x fc uc lc)
  case atStart => exact ⟨f, u1, l1, rfl, H1.out, HL.out, Nat.le_refl _, by have := HG.out.1; omega⟩
  case round =>
    obtain ⟨fc, uc, lc, hk, ha⟩ := hrel
    cases fc with
    | zero => exact absurd ha.eq (by simp [bothL])
    | succ fc =>
      cases uc with
      | nil => exact absurd ha.eq (by simp [bothL])
      | cons x xs =>
        have HA := Lib.hid ha
        obtain ⟨_, _, _, _, _, _, c3, _⟩ := ha.out.to.rd.head
        obtain ⟨_, _, hvc⟩ := ha.out.to.form
        subst hvc
        have hl0 := ha.pos
        have hl1 := ha.out.to.sz
        have hq : ((lc.length : Int) - 1) = ((lc.length - 1 : Nat) : Int) := by omega
        have HC : Hid (COut B G r v0 w0 wr (.slice _ lc.length _) (x :: xs) d lc []) := Lib.hid ha.out
        clear ha
        by_cases hx : x.text = [97, 110, 100]
        · have heq := HA.out.eq
          simp only [bothL, hx, if_true] at heq
          obtain ⟨us2, d2, l2, e1, g1⟩ := bind_ok heq
          have hd2 : d2 = none := none_of_none (fun k hk => by subst hk; exact (staysC fc).bothL _ _ _ _ _ _ _ g1) rfl
          subst hd2
          have hgr := (growsC fc).one _ _ _ _ _ _ _ e1
          unfold MoC at hgr
          have He := Lib.hid e1
          have HG1 := Lib.hid g1
          have Ht := Lib.hid hx
          clear heq e1 g1 hx
          simp only [List.length_cons] at hl1 hk
          generalize hm : lc.length - 1 = m at *
          go_wp2_with (first | (go_at_call 51; refine (c_here HC.out).mono ?_; clear HC; rintro e wh ⟨rfl, HC⟩) | (go_at_call 50; refine (c_is_yes HC.out (by decide) Ht.out).mono ?_; clear HC; rintro e wi ⟨rfl, HC⟩) | (go_at_call 52; refine (c_want HC.out (by decide) Ht.out).mono ?_; clear HC; rintro e w5 ⟨rfl, HC⟩) | (go_at_call 63; refine (HCH.out fc (by have := HA.out.le; omega) _ _ HC.out He.out).mono ?_; clear HC; rintro e w4 ⟨v4, rfl, HC⟩; obtain ⟨a4, k4, rfl⟩ := HC.out.to.form; obtain ⟨xs4, hx4⟩ := HC.out.to.own; have HO := Lib.hid hx4; clear hx4) | (at_builtin; refine wpList_pushC rfl _ _ rfl (⟨3, 0, [], [], m, (l2.length - 1 : Nat), x.place⟩) (.slice none 0 0) (.slice none 0 0) _ _ HO.out.1 HO.out.2 (World.ownsRow_nil _ _ _ _) (World.ownsRow_nil _ _ _ _) HC.out.to.base (by omega) rfl rfl (by simp [cnCell]; try omega) ?_; intro v6 w6 H6))
          go_roundg us2.length
          case measure => omega
          case rel => exact ⟨fc, us2, _, rfl, HC.out.push H6.out (by omega), HG1.out, (by have := HA.out.le; omega), by simp⟩
        · have heq := HA.out.eq
          simp only [bothL, hx, if_false] at heq
          injection heq with q1 q2 q3
          subst q1; subst q3
          clear q2
          go_wp2_with (go_at_call 50; refine (c_is_no HC.out (by decide) (by assumption)).mono ?_; clear HC; rintro e wi ⟨rfl, HC⟩)
          go_ret
          exact ⟨_, rfl, HC⟩

/-- What stands at the head of each round. -/
structure EitherSaidAt (B G r d f : Nat) (v0 : Value) (w0 : World) (us' : List Tok) (l' : List Cn) (wx : World) (vc : Value) (fc : Nat) (uc : List Tok) (lc : List Cn) : Prop where
  out : COut B G r v0 w0 wx vc uc d lc []
  eq : eitherL fc uc d none lc = .ok us' none l'
  le : fc ≤ f
  pos : 0 < lc.length
set_option maxRecDepth 100000 in
set_option maxHeartbeats 4000000 in
theorem cond_step {f : Nat} (HCs : ∀ g, g ≤ f → BothSaid g) : EitherSaid (f + 1) := by
  intro B G r d v v0 us us' l l' X w0 w h hf
  simp only [eitherF] at hf
  obtain ⟨u1, d1, l1, e1, g1⟩ := bind_ok hf
  have hd1 : d1 = none := none_of_none (fun k hk => by subst hk; exact (staysC f).eitherL _ _ _ _ _ _ _ g1) rfl
  subst hd1
  have HCH := Lib.hid HCs
  have HX := Lib.hid (HCs f (Nat.le_refl _) w0 w h e1)
  have HL := Lib.hid g1
  have HG := Lib.hid ((growsC f).both _ _ _ _ _ _ _ e1)
  clear h e1 g1 hf HCs
  go_enter Try.func31, Try.ntmps31
  go_wp2_with (first | (go_at_call 49; refine (HX.out).mono ?_; rintro e w1 ⟨v1, rfl, H1⟩))
  go_loopg [1, 5, 6] u1.length (fun k x _ _ wx => ∃ fc uc lc, k = uc.length ∧ EitherSaidAt B G r d f v0 w0 us' l' wx x fc uc lc)
  case atStart => exact ⟨f, u1, l1, rfl, H1.out, HL.out, Nat.le_refl _, by have := HG.out.1; omega⟩
  case round =>
    obtain ⟨fc, uc, lc, hk, ha⟩ := hrel
    cases fc with
    | zero => exact absurd ha.eq (by simp [eitherL])
    | succ fc =>
      cases uc with
      | nil => exact absurd ha.eq (by simp [eitherL])
      | cons x xs =>
        have HA := Lib.hid ha
        obtain ⟨_, _, _, _, _, _, c3, _⟩ := ha.out.to.rd.head
        obtain ⟨_, _, hvc⟩ := ha.out.to.form
        subst hvc
        have hl0 := ha.pos
        have hl1 := ha.out.to.sz
        have hq : ((lc.length : Int) - 1) = ((lc.length - 1 : Nat) : Int) := by omega
        have HC : Hid (COut B G r v0 w0 wr (.slice _ lc.length _) (x :: xs) d lc []) := Lib.hid ha.out
        clear ha
        by_cases hx : x.text = [111, 114]
        · have heq := HA.out.eq
          simp only [eitherL, hx, if_true] at heq
          obtain ⟨us2, d2, l2, e1, g1⟩ := bind_ok heq
          have hd2 : d2 = none := none_of_none (fun k hk => by subst hk; exact (staysC fc).eitherL _ _ _ _ _ _ _ g1) rfl
          subst hd2
          have hgr := (growsC fc).both _ _ _ _ _ _ _ e1
          unfold MoC at hgr
          have He := Lib.hid e1
          have HG1 := Lib.hid g1
          have Ht := Lib.hid hx
          clear heq e1 g1 hx
          simp only [List.length_cons] at hl1 hk
          generalize hm : lc.length - 1 = m at *
          go_wp2_with (first | (go_at_call 51; refine (c_here HC.out).mono ?_; clear HC; rintro e wh ⟨rfl, HC⟩) | (go_at_call 50; refine (c_is_yes HC.out (by decide) Ht.out).mono ?_; clear HC; rintro e wi ⟨rfl, HC⟩) | (go_at_call 52; refine (c_want HC.out (by decide) Ht.out).mono ?_; clear HC; rintro e w5 ⟨rfl, HC⟩) | (go_at_call 49; refine (HCH.out fc (by have := HA.out.le; omega) _ _ HC.out He.out).mono ?_; clear HC; rintro e w4 ⟨v4, rfl, HC⟩; obtain ⟨a4, k4, rfl⟩ := HC.out.to.form; obtain ⟨xs4, hx4⟩ := HC.out.to.own; have HO := Lib.hid hx4; clear hx4) | (at_builtin; refine wpList_pushC rfl _ _ rfl (⟨4, 0, [], [], m, (l2.length - 1 : Nat), x.place⟩) (.slice none 0 0) (.slice none 0 0) _ _ HO.out.1 HO.out.2 (World.ownsRow_nil _ _ _ _) (World.ownsRow_nil _ _ _ _) HC.out.to.base (by omega) rfl rfl (by simp [cnCell]; try omega) ?_; intro v6 w6 H6))
          go_roundg us2.length
          case measure => omega
          case rel => exact ⟨fc, us2, _, rfl, HC.out.push H6.out (by omega), HG1.out, (by have := HA.out.le; omega), by simp⟩
        · have heq := HA.out.eq
          simp only [eitherL, hx, if_false] at heq
          injection heq with q1 q2 q3
          subst q1; subst q3
          clear q2
          go_wp2_with (go_at_call 50; refine (c_is_no HC.out (by decide) (by assumption)).mono ?_; clear HC; rintro e wi ⟨rfl, HC⟩)
          go_ret
          exact ⟨_, rfl, HC⟩

theorem cond_all : ∀ f, OneSaid f ∧ BothSaid f ∧ EitherSaid f := by
  intro f
  induction f using Nat.strongRecOn with
  | ind f ih =>
    cases f with
    | zero =>
      refine ⟨?_, ?_, ?_⟩
      · intro B G r d v v0 us us' l l' X w0 w _ hf; simp [oneF] at hf
      · intro B G r d v v0 us us' l l' X w0 w _ hf; simp [bothF] at hf
      · intro B G r d v v0 us us' l l' X w0 w _ hf; simp [eitherF] at hf
    | succ f =>
      exact ⟨one_step (said_all f).1 (ih f (by omega)).2.2 (ih f (by omega)).1, both_step (fun g hg => (ih g (by omega)).1), cond_step (fun g hg => (ih g (by omega)).2.1)⟩
end Go.Proofs.Ythjnkjekidagiaa.Rpr
namespace Go.Proofs.Ythjnkjekidagiaa.Rpr
open Go.RowKit
open Lex (Tok isKeyF lexF lst cellsOf)
open Prs

def goodB (t : Tok) : Bool :=
  decide (t.text.length ≤ 8192) && decide (t.place ≤ 8192) && decide (t.kind ≤ 4) &&
    ((decide (t.kind = 3) && isKeyF t.text) || (decide (t.kind = 4) && isSg t.text) || (decide (t.kind ≠ 3) && decide (t.kind ≠ 4) && !isKeyF t.text && !isSg t.text)) &&
    (decide (t.kind ≠ 2) || match Lex.readF t.text with | .ok _ _ => true | _ => false)
theorem goodB_ok {t : Tok} (h : goodB t = true) : Good t := by
  simp only [goodB, Bool.and_eq_true, Bool.or_eq_true, decide_eq_true_eq, Bool.not_eq_true'] at h
  obtain ⟨⟨⟨⟨h1, h2⟩, h3⟩, h4⟩, h5⟩ := h
  refine ⟨h1, h2, h3, ?_, fun hk => ?_⟩
  · rcases h4 with (h4 | h4) | h4
    · exact .inl h4
    · exact .inr (.inl h4)
    · exact .inr (.inr ⟨h4.1.1.1, h4.1.1.2, h4.1.2, h4.2⟩)
  · rcases h5 with h5 | h5
    · exact absurd hk h5
    · split at h5
      · rename_i v u e; exact ⟨v, u, e⟩
      · cases h5
/-- What a text of a condition is read as. -/
def condRead (s : List UInt8) : Option (List Cn) :=
  match lexF s with
  | .toks T => if (T.all goodB && decide (T.length ≤ 8193) && decide (0 < T.length)) = true then match condF 200 T 0 none with | .ok [t] none l => if t.kind = 0 then some l else none | _ => none else none
  | _ => none
theorem condRead_ok {s : List UInt8} {l : List Cn} (h : condRead s = some l) : ∃ T t, lexF s = .toks T ∧ (∀ t ∈ T, Good t) ∧ T.length ≤ 8193 ∧ 0 < T.length ∧ condF 200 T 0 none = .ok [t] none l ∧ t.kind = 0 := by
  unfold condRead at h
  split at h
  · rename_i T hT
    split at h
    · rename_i hg
      simp only [Bool.and_eq_true, decide_eq_true_eq, List.all_eq_true] at hg
      split at h
      · rename_i t l' hc
        split at h
        · rename_i hk
          injection h with h
          subst h
          exact ⟨T, t, hT, fun t ht => goodB_ok (hg.1.1 t ht), hg.1.2, hg.2, hc, hk⟩
        · cases h
      · cases h
    · cases h
  · cases h
theorem tok_get (ts : List Tok) (i : Nat) (h : i < ts.length) : (cellsOf ts)[i * 3]? = some (.int .i64 ts[i].kind) ∧ (cellsOf ts)[i * 3 + 1]? = some (.string ⟨ts[i].text.toArray⟩) ∧ (cellsOf ts)[i * 3 + 2]? = some (.int .i64 ts[i].place) := by
  induction ts generalizing i with
  | nil => simp at h
  | cons t ts ih =>
    have hc : cellsOf (t :: ts) = .int .i64 t.kind :: .string ⟨t.text.toArray⟩ :: .int .i64 t.place :: cellsOf ts := rfl
    rw [hc]
    cases i with
    | zero => simp
    | succ i =>
      have := ih i (by simpa using h)
      rw [show (i + 1) * 3 = i * 3 + 3 by omega]
      simpa using this
theorem rr_of {w1 : World} {T : List Tok} {cap G B : Nat} {cur : Array Value} (hg : ∀ t ∈ T, Good t) (hlen : T.length ≤ 8193) (hG : w1.heap[G]? = some (.cells cur 83 (0, 0))) (hcap : T.length ≤ cap) (hm : cap ≤ maxLen) (htk : cur.toList.take (T.length * 3) = cellsOf T) (hB : B ≤ w1.heap.size) :
    RR B G (w1.alloc (.cells #[.slice (some ⟨G, 0, none⟩) T.length cap, .int .i64 0, .int .i64 0, .int .i64 0, .int .i64 0] 80)) w1.heap.size T 0 := by
  refine ⟨⟨T.length, cap, 0, cur, heap_alloc_new _ _, (Chg.of_kept (S := fun _ => False) ((Kept.refl w1).alloc _)).heap hG id, by simp, hcap, hm, hlen, fun i hi => ?_⟩, hB, by omega, hg⟩
  have hcell : ∀ (j : Nat) (u : Value), (cellsOf T)[j]? = some u → cur[j]? = some u := by
    intro j u hj
    rw [← htk, List.getElem?_take] at hj
    split at hj
    · simpa using hj
    · cases hj
  obtain ⟨a, b, c⟩ := tok_get T i hi
  simp only [Nat.zero_add]
  exact ⟨hcell _ _ a, hcell _ _ b, hcell _ _ c⟩
/-- A list of conditions of one's own. -/
def CnOwn (w : World) (B : Nat) (v : Value) (l : List Cn) : Prop := ∃ xs, w.ownsRow B 101 7 v l.length xs ∧ CnCells w B l xs

set_option maxRecDepth 100000 in
set_option maxHeartbeats 4000000 in
theorem Cond_ok {s : ByteArray} {l : List Cn} (w : World) (hs : s.size ≤ 8192) (h : condRead (lst s) = some l) : Calls Try.prog 16 #[.string s] w fun e w' => ∃ v, e = .returned (.tuple #[v, .int .i64 0, .int .i64 0]) ∧ Hid (Kept w w' ∧ CnOwn w' w.heap.size v l) := by
  obtain ⟨T, tE, hT, hg, h8, h0, hc, hk⟩ := condRead_ok h
  have HL := Lib.hid (Lex.rLex_any s w T hs hT)
  have Hc := Lib.hid hc
  have Hg := Lib.hid hg
  have Hk := Lib.hid hk
  have hE : (0 : Nat) < T.length := h0
  clear h hT hg hc hk hs
  go_enter Try.func16, Try.ntmps16
  go_upto_region 4 with (go_at_call 30; refine (HL.out).mono ?_; rintro e w1 ⟨v, rfl, H1⟩)
  obtain ⟨g, cap, cur, hv, hg3, hG, hcap, hm, -, htk⟩ : ∃ g cap cur, v = .slice (some ⟨g, 0, none⟩) T.length cap ∧ w.heap.size ≤ g ∧ w1.heap[g]? = some (.cells cur 83 (0, 0)) ∧ T.length ≤ cap ∧ cap ≤ maxLen ∧ cur.size = cap * 3 ∧ cur.toList.take (T.length * 3) = cellsOf T := by
    rcases H1.out.2.2 with ⟨_, hn⟩ | h
    · omega
    · exact h
  subst hv
  have HR := Lib.hid (rr_of (B := w.heap.size) Hg.out h8 hG hcap hm htk H1.out.1.size)
  have K1 := Lib.hid (H1.out.1.alloc (.cells #[.slice (some ⟨g, 0, none⟩) T.length cap, .int .i64 0, .int .i64 0, .int .i64 0, .int .i64 0] 80))
  have hsz := H1.out.1.size
  clear hg3 hG hcap hm htk H1
  go_upto_region 5 with fail
  generalize w1.alloc (.cells #[.slice (some ⟨g, 0, none⟩) T.length cap, .int .i64 0, .int .i64 0, .int .i64 0, .int .i64 0] 80) = w2 at *
  have HX := Lib.hid ((cond_all 200).2.2 w2 w2 (COut.refl (v := .slice none 0 0) (l := []) ⟨HR.out, ⟨[], World.ownsRow_nil _ _ _ _, rfl⟩, by simpa using h8⟩) Hc.out)
  go_upto_region 6 with (go_at_call 31; refine (HX.out).mono ?_; rintro e w3 ⟨v3, rfl, H3⟩)
  obtain ⟨n, cp, p, c0, c1, c2, c3, f1, f2, hp, hn, hm, h8', hr, hG, k0, k1, k2⟩ := H3.out.to.rd.head
  rw [Hk.out] at k0
  simp only [maxLen] at hm
  obtain ⟨a3, b3, hf3⟩ := H3.out.to.form
  subst hf3
  go_region
  go_wp2
  go_ret3
  have hK : Kept w w3 := ((Chg.of_kept (S := fun k => k = w1.heap.size) K1.out).then (H3.out.chg.mono fun i _ hs => by
    rcases hs with hs | hs
    · exact hs
    · simp [Value.ownBlock] at hs)).kept fun i hi e => by omega
  obtain ⟨xs, x1, x2⟩ := H3.out.to.own
  have hd : Chg (fun _ => False) w3 w3.drew := Chg.of_kept (Kept.refl w3).drew
  exact ⟨_, rfl, Lib.hid ⟨hK.drew, xs, own_stay x1 hd (fun _ _ => id), x2.chg hd (fun _ _ _ => id)⟩⟩
end Go.Proofs.Ythjnkjekidagiaa.Rpr
