/-
  unary of the document's answer's parser, out of itself and of inner at smaller fuels.
-/
import Derived.Test.YthjnkjekidagiaaRrdF
import Derived.Deep.Cut
import Derived.Deep.RegionHeld3
namespace Go.Proofs.Ythjnkjekidagiaa.Rpr
open Go.RowKit
open Lex (Tok isKeyF readF)
open Prs

theorem read_readT (l : List UInt8) : Typ.readF l = (readT l : Int) := by
  unfold Typ.readF readT
  repeat' split
  all_goals rfl

/-- An append of one node that was just laid into a block of its own. -/
theorem wpList_push {ops : Array Oper} {rest : List Oper} {o : Oper} {a : Act} {Q : Exit → Act → World → Prop} (hgd : o.guard = none) (s x : Operand)
    (ho : o.op = .call { callee := .builtin .append, args := #[s, x], argTypes := #[99, 99] }) {B : Nat} {v : Value} {l : List Ex} (e : Ex) (cs : Array Value) (w : World) (hown : w.ownsRow B 146 7 v l.length (exCells l)) (hB : B ≤ w.heap.size) (hl : l.length ≤ 8193) (hs : a.eval s = v) (hx : a.eval x = .slice (some ⟨w.heap.size, 0, none⟩) 1 1) (hc : cs.toList = exCell e)
    (h : ∀ v' w', Hid (Pushed B v w l e w' v') → wpList Try.prog ops Q rest (a.put o.dst v') w') : wpList Try.prog ops Q (o :: rest) a (w.alloc (.cells cs 146)) := by
  obtain ⟨i0, hi0, hz0, hz1, hz2⟩ := info_parts ex_info
  refine wpList_append_lies _ hgd s x 99 ho B 146 i0 _ 7 64 Try.underlying99 hi0 hz0 hz1 hz2 rfl (by omega) v l.length (exCells l) hs (hown.alloc _) ⟨w.heap.size, 0, none⟩ 1 1 (exCell e) hx rfl ?_ ?_ (by omega) (by simp only [maxLen]; omega) (by omega) (by simp; omega) (w.heap.size + 1) (by simp) ?_
  · rw [← hc]; exact World.news_of_block (heap_alloc_new w _)
  · simp [exCell, Value.oneCell']
  · intro g cap w7 hown' hgrow hat hlt
    exact h _ _ (Lib.hid (pushed hown' hgrow hat))

/-- The same at a step of a region that draws its order. -/
theorem step_push {ops : Array Oper} {o : Oper} {a : Act} {K : Act → World → Prop} {Q : Exit → Act → World → Prop} {E : Prop} (hgd : o.guard = none) (s x : Operand)
    (ho : o.op = .call { callee := .builtin .append, args := #[s, x], argTypes := #[99, 99] }) {B : Nat} {v : Value} {l : List Ex} (e : Ex) (cs : Array Value) (w : World) (hown : w.ownsRow B 146 7 v l.length (exCells l)) (hB : B ≤ w.heap.size) (hl : l.length ≤ 8193) (hs : a.eval s = v) (hx : a.eval x = .slice (some ⟨w.heap.size, 0, none⟩) 1 1) (hc : cs.toList = exCell e)
    (h : ∀ v' w', Hid (Pushed B v w l e w' v') → K (a.put o.dst v') w') : if Region.wanted o (yielded ops a.tmps) = true then Oper.wp Try.prog o a (w.alloc (.cells cs 146)) K Q else E := by
  obtain ⟨i0, hi0, hz0, hz1, hz2⟩ := info_parts ex_info
  refine step_append_lies _ hgd s x 99 ho B 146 i0 _ 7 64 Try.underlying99 hi0 hz0 hz1 hz2 rfl (by omega) v l.length (exCells l) hs (hown.alloc _) ⟨w.heap.size, 0, none⟩ 1 1 (exCell e) hx rfl ?_ ?_ (by omega) (by simp only [maxLen]; omega) (by omega) (by simp; omega) (w.heap.size + 1) (by simp) ?_
  · rw [← hc]; exact World.news_of_block (heap_alloc_new w _)
  · simp [exCell, Value.oneCell']
  · intro g cap w7 hown' hgrow hat hlt
    exact h _ _ (Lib.hid (pushed hown' hgrow hat))

def tokV (t : Tok) : Array Value := #[.int .i64 t.kind, .string ⟨t.text.toArray⟩, .int .i64 t.place]
/-- Where unary stands once it has its token: in a block of its own. -/
structure UAt (B G r d : Nat) (v : Value) (t : Tok) (us : List Tok) (l : List Ex) (b : Nat) (w wc : World) : Prop where
  inn : EIn B G wc r v (t :: us) d l
  box : wc.heap[b]? = some (.cells (tokV t) 83 (0, 0))
  kept : Kept w wc
theorem UAt.step {B G r d b : Nat} {v : Value} {t : Tok} {us : List Tok} {l : List Ex} {w wc w' : World} (h : UAt B G r d v t us l b w wc) (hk : Kept wc w') : UAt B G r d v t us l b w w' :=
  ⟨h.inn.kept hk, (Chg.of_kept (S := fun _ => False) hk).heap h.box id, h.kept.trans hk⟩
theorem UAt.cells {B G r d b : Nat} {v : Value} {t : Tok} {us : List Tok} {l : List Ex} {w wc : World} (h : UAt B G r d v t us l b w wc) :
    wc.cell? ⟨b, 0, none⟩ = some (.int .i64 t.kind) ∧ wc.cell? ⟨b, 1, none⟩ = some (.string ⟨t.text.toArray⟩) ∧ wc.cell? ⟨b, 2, none⟩ = some (.int .i64 t.place) :=
  ⟨box_cell h.box 0 _ rfl, box_cell h.box 1 _ rfl, box_cell h.box 2 _ rfl⟩
theorem u_start {B G r d : Nat} {v : Value} {t : Tok} {us : List Tok} {l : List Ex} {w : World} (h : EIn B G w r v (t :: us) d l) : UAt B G r d v t us l w.heap.size w (w.alloc (.cells (tokV t) 83)).drew :=
  have hk : Kept w (w.alloc (.cells (tokV t) 83)).drew := ((Kept.refl w).alloc _).drew
  ⟨h.kept hk, heap_alloc_new w _, hk⟩
theorem u_is_no {B G r d b : Nat} {v : Value} {t : Tok} {us : List Tok} {l : List Ex} {w wc : World} {s : List UInt8} (h : UAt B G r d v t us l b w wc) (hs : isKeyF s = true ∨ isSg s = true) (ht : t.text ≠ s) : Calls Try.prog 50 #[.pointer (some ⟨r, 0, none⟩), .string ⟨s.toArray⟩] wc fun e w' => e = .returned (.bool false) ∧ Hid (UAt B G r d v t us l b w w') :=
  (is_no wc h.inn.rd hs ht).mono fun _ _ ⟨h1, h2⟩ => ⟨h1, Lib.hid (h.step h2)⟩
theorem u_is_yes {B G r d b : Nat} {v : Value} {t : Tok} {us : List Tok} {l : List Ex} {w wc : World} {s : List UInt8} (h : UAt B G r d v t us l b w wc) (hs : isKeyF s = true ∨ isSg s = true) (ht : t.text = s) : Calls Try.prog 50 #[.pointer (some ⟨r, 0, none⟩), .string ⟨s.toArray⟩] wc fun e w' => e = .returned (.bool true) ∧ Hid (UAt B G r d v t us l b w w') :=
  (is_yes wc h.inn.rd hs ht).mono fun _ _ ⟨h1, h2⟩ => ⟨h1, Lib.hid (h.step h2)⟩
theorem u_take_no {B G r d b : Nat} {v : Value} {t : Tok} {us : List Tok} {l : List Ex} {w wc : World} {s : List UInt8} (h : UAt B G r d v t us l b w wc) (hs : isKeyF s = true ∨ isSg s = true) (ht : t.text ≠ s) : Calls Try.prog 64 #[.pointer (some ⟨r, 0, none⟩), .string ⟨s.toArray⟩] wc fun e w' => e = .returned (.bool false) ∧ Hid (UAt B G r d v t us l b w w') :=
  (take_no wc h.inn.rd hs ht).mono fun _ _ ⟨h1, h2⟩ => ⟨h1, Lib.hid (h.step h2)⟩

/-- Once it has gone by its token. -/
structure UGone (B G r d : Nat) (v : Value) (t : Tok) (us : List Tok) (l : List Ex) (b : Nat) (w wc : World) : Prop where
  inn : EIn B G wc r v us d l
  box : wc.heap[b]? = some (.cells (tokV t) 83 (0, 0))
  chg : Chg (fun k => k = r) w wc
theorem UGone.cells {B G r d b : Nat} {v : Value} {t : Tok} {us : List Tok} {l : List Ex} {w wc : World} (h : UGone B G r d v t us l b w wc) :
    wc.cell? ⟨b, 0, none⟩ = some (.int .i64 t.kind) ∧ wc.cell? ⟨b, 1, none⟩ = some (.string ⟨t.text.toArray⟩) ∧ wc.cell? ⟨b, 2, none⟩ = some (.int .i64 t.place) :=
  ⟨box_cell h.box 0 _ rfl, box_cell h.box 1 _ rfl, box_cell h.box 2 _ rfl⟩
theorem UAt.gone {B G r d b : Nat} {v : Value} {t : Tok} {us : List Tok} {l : List Ex} {w wc w' : World} (h : UAt B G r d v t us l b w wc) (hc : Chg (fun k => k = r) wc w') (hr : RR B G w' r us d) : UGone B G r d v t us l b w w' := by
  refine ⟨h.inn.reader hc hr (by simp), hc.heap h.box (fun e => by obtain ⟨_, _, _, _, e1, _⟩ := h.inn.rd.lie; exact ne_of_ty h.box e1 (by decide) e), (Chg.of_kept h.kept).then hc⟩
theorem UAt.next {B G r d b p : Nat} {v : Value} {t : Tok} {us : List Tok} {l : List Ex} {w wc : World} (h : UAt B G r d v t us l b w wc) (hp : wc.cell? ⟨r, 1, none⟩ = some (.int .i64 (p : Nat))) : UGone B G r d v t us l b w (wc.setCell ⟨r, 1, none⟩ (.int .i64 ((p : Int) + 1))) :=
  have hx := h.inn.rd.next hp
  h.gone hx.2 hx.1
theorem u_take_yes {B G r d b : Nat} {v : Value} {t : Tok} {us : List Tok} {l : List Ex} {w wc : World} {s : List UInt8} (h : UAt B G r d v t us l b w wc) (hs : isKeyF s = true ∨ isSg s = true) (ht : t.text = s) : Calls Try.prog 64 #[.pointer (some ⟨r, 0, none⟩), .string ⟨s.toArray⟩] wc fun e w' => e = .returned (.bool true) ∧ Hid (UGone B G r d v t us l b w w') :=
  (take_yes wc h.inn.rd hs ht).mono fun _ _ ⟨h1, h2⟩ => ⟨h1, Lib.hid (h.gone h2.out.1 h2.out.2)⟩
/-- What unary hands back: its list with one more. -/
theorem UGone.push {B G r d b : Nat} {v v' : Value} {t : Tok} {us : List Tok} {l : List Ex} {w wc w' : World} {e : Ex} (h : UGone B G r d v t us l b w wc) (h0 : EIn B G w r v (t :: us) d l) (hp : Pushed B v wc l e w' v') : EOut B G r v w w' v' us d (l ++ [e]) :=
  (EOut.of_reader h0 h.chg h.inn.rd (by simp)).trans (EOut.push h.inn hp (by have := h0.sz; simp at this; omega))

theorem Good.plain {t : Tok} (h : Good t) (hk : t.kind < 3) : isKeyF t.text = false ∧ isSg t.text = false := by
  rcases h.2.2.2.1 with h1 | h1 | h1
  · omega
  · omega
  · exact h1.2.2
theorem ne_sg {a s : List UInt8} (h : isSg a = false) (hs : isSg s = true) : a ≠ s := by intro e; rw [e, hs] at h; cases h
theorem ne_key {a s : List UInt8} (h : isKeyF a = false) (hs : isKeyF s = true) : a ≠ s := by intro e; rw [e, hs] at h; cases h

theorem key_sg {l : List UInt8} (h : isKeyF l = true) : isSg l = false := by
  have h2 : ∀ x ∈ Lex.keyWords, isSg x = false := by decide
  exact h2 l (by simpa [isKeyF] using h)
theorem Good.key {t : Tok} (h : Good t) (hk : isKeyF t.text = true) : t.kind = 3 := by
  rcases h.2.2.2.1 with h1 | h1 | h1
  · exact h1.1
  · exact absurd h1.2 (by rw [key_sg hk]; decide)
  · rw [hk] at h1; exact absurd h1.2.2.1 (by decide)
theorem read_key {l : List UInt8} (h : readT l ≠ 0) : isKeyF l = true ∧ isSg l = false := by
  unfold readT at h
  repeat' split at h
  all_goals first | (rename_i e; subst e; decide) | exact absurd rfl h
theorem cells_of {b : Nat} {t : Tok} {w : World} (h : w.heap[b]? = some (.cells (tokV t) 83 (0, 0))) :
    w.cell? ⟨b, 0, none⟩ = some (.int .i64 t.kind) ∧ w.cell? ⟨b, 1, none⟩ = some (.string ⟨t.text.toArray⟩) ∧ w.cell? ⟨b, 2, none⟩ = some (.int .i64 t.place) :=
  ⟨box_cell h 0 _ rfl, box_cell h 1 _ rfl, box_cell h 2 _ rfl⟩
theorem UGone.kept {B G r d b : Nat} {v : Value} {t : Tok} {us : List Tok} {l : List Ex} {w wc w' : World} (h : UGone B G r d v t us l b w wc) (hk : Kept wc w') : UGone B G r d v t us l b w w' :=
  ⟨h.inn.kept hk, (Chg.of_kept (S := fun _ => False) hk).heap h.box id, h.chg.keep hk⟩
theorem EOut.box {B G r d d' b : Nat} {v v' : Value} {us us' : List Tok} {l l' : List Ex} {w w' : World} {t : Tok} (h : EOut B G r v w w' v' us' d' l') (h0 : EIn B G w r v us d l) (hb : w.heap[b]? = some (.cells (tokV t) 83 (0, 0))) : w'.heap[b]? = some (.cells (tokV t) 83 (0, 0)) := by
  refine h.chg.heap hb fun hs => ?_
  rcases hs with rfl | hs
  · obtain ⟨n, cap, p, cur, e1, _⟩ := h0.rd.lie
    exact ne_of_ty hb e1 (by decide) rfl
  · obtain ⟨_, c', hc'⟩ := own_at h0.own hs
    exact ne_of_ty hb hc' (by decide) rfl
theorem UGone.push2 {B G r d d1 b : Nat} {v v2 v' : Value} {t : Tok} {us us1 us2 : List Tok} {l l2 : List Ex} {w wc w2 w' : World} {e : Ex} (h : UGone B G r d1 v t us1 l b w wc) (_h0 : EIn B G w r v us d l) (h1 : EOut B G r v wc w2 v2 us2 d l2) (hp : Pushed B v2 w2 l2 e w' v') (_hl : us1.length ≤ us.length) (hs : l2.length + 1 + us2.length ≤ 8193) : EOut B G r v w w' v' us2 d (l2 ++ [e]) := by
  refine (EOut.trans (us1 := us1) (d := d1) (l1 := l) ⟨h.chg.mono fun _ _ e => .inl e, .inl rfl, h.inn⟩ h1).trans (EOut.push h1.to hp hs)
theorem UAt.deeper {B G r d d1 b : Nat} {v : Value} {t : Tok} {us : List Tok} {l : List Ex} {w wc w' : World} (h : UAt B G r d v t us l b w wc) (hc : Chg (fun k => k = r) wc w') (hr : RR B G w' r us d1) : UGone B G r d1 v t us l b w w' := by
  refine ⟨h.inn.reader hc hr (by simp), hc.heap h.box (fun e => by obtain ⟨_, _, _, _, e1, _⟩ := h.inn.rd.lie; exact ne_of_ty h.box e1 (by decide) e), (Chg.of_kept h.kept).then hc⟩
theorem EOut.up {B G r d b : Nat} {v v' : Value} {us' : List Tok} {l' : List Ex} {w w' : World} {t : Tok} (h : EOut B G r v w w' v' us' (d + 1) l') (hb : w'.heap[b]? = some (.cells (tokV t) 83 (0, 0))) :
    EOut B G r v w (w'.setCell ⟨r, 2, none⟩ (.int .i64 d)) v' us' d l' ∧ (w'.setCell ⟨r, 2, none⟩ (.int .i64 d)).heap[b]? = some (.cells (tokV t) 83 (0, 0)) := by
  have hx := h.to.rd.dive d (by have := h.to.rd.deep; omega)
  refine ⟨h.trans (EOut.of_reader h.to hx.2 hx.1 (Nat.le_refl _)), hx.2.heap hb fun e => ?_⟩
  obtain ⟨_, _, _, _, e1, _⟩ := h.to.rd.lie
  exact ne_of_ty hb e1 (by decide) e

-- GEN
set_option maxRecDepth 100000 in
set_option maxHeartbeats 4000000 in
theorem unary_num {B G r d : Nat} {v : Value} {t : Tok} {us : List Tok} {l : List Ex} (w : World) (h : EIn B G w r v (t :: us) d l) (hk : t.kind = 2) :
    Calls Try.prog 81 #[.pointer (some ⟨r, 0, none⟩), v] w fun e w' => ∃ v', e = .returned v' ∧ Hid (EOut B G r v w w' v' us d (l ++ [⟨1, (numF t.text).1, (numF t.text).2, [], -1, -1, t.place⟩])) := by
  have hg := h.rd.good t (by simp)
  have hgg := (hg.plain (by omega)).2
  have n1 : t.text ≠ [45] := ne_sg hgg (by decide)
  have n2 : t.text ≠ [126] := ne_sg hgg (by decide)
  have n3 : t.text ≠ [40] := ne_sg hgg (by decide)
  obtain ⟨vn, un, hv⟩ := hg.2.2.2.2 hk
  have hN : numF t.text = (vn, if un then 6 else 5) := by unfold numF; rw [hv]
  rw [hN]
  have hts : (⟨t.text.toArray⟩ : ByteArray).size ≤ 4611686018427387904 := by
    have := (h.rd.good t (by simp)).1
    show t.text.toArray.size ≤ _
    simp; omega
  obtain ⟨ty, hty, hty'⟩ : ∃ ty : Nat, (if un then 6 else 5 : Nat) = ty ∧ (if un = true then (6 : Int) else 5) = ty := ⟨_, rfl, by split <;> rfl⟩
  have HNum := fun w => Lex.rNumber_ok ⟨t.text.toArray⟩ w vn un hts hv
  rw [hty'] at HNum
  rw [hty]
  replace HNum := Lib.hid HNum
  have Hk := Lib.hid hk
  clear hgg hN hts hv hg hk hty hty'
  have HU := Lib.hid (u_start h)
  have hsz := h.sz
  simp only [List.length_cons] at hsz
  obtain ⟨n, cap, p, c0, c1, c2, c3, f1, f2, hp, hn, hm, h8, hr, hG, k0, k1, k2⟩ := h.rd.head
  simp only [maxLen] at hm
  have HH := Lib.hid h
  clear h
  go_enter Try.func81, Try.ntmps81
  go_wp2
  go_region
  unfold tokV at HU
  generalize (w.alloc (.cells #[.int .i64 t.kind, .string ⟨t.text.toArray⟩, .int .i64 t.place] 83)).drew = W at *
  clear c0 c1 c2 c3 f1 f2 k0 k1 k2 hr hG hn hm h8 hp
  obtain ⟨z0, z1, z2⟩ := HU.out.cells
  rw [Hk.out] at z0
  go_upto_region 15 with (go_at_call 50; first | (refine (u_is_no HU.out (by decide) (by assumption)).mono ?_; clear HU z0 z1 z2; rintro e w1 ⟨rfl, HU⟩; obtain ⟨z0, z1, z2⟩ := HU.out.cells; rw [Hk.out] at z0))
  obtain ⟨n, cap, p, c0, c1, c2, c3, f1, f2, hp, hn, hm, h8, hr, hG, k0, k1, k2⟩ := HU.out.inn.rd.head
  have HN := Lib.hid (HU.out.next c1)
  go_upto_region 16 with fail
  generalize w1.setCell ⟨r, 1, none⟩ (.int .i64 ((p : Int) + 1)) = w2 at *
  clear z0 z1 z2 c0 c1 c2 c3 f1 f2 k0 k1 k2 hr hG hn hm h8 hp
  obtain ⟨z0, z1, z2⟩ := HN.out.cells
  go_wp2_with (first | (go_at_call 62; refine (HNum.out _).mono ?_; rintro e w' ⟨rfl, rfl⟩) | (at_builtin; refine wpList_push rfl _ _ rfl (⟨1, vn, ty, [], -1, -1, t.place⟩) _ _ (HN.out.inn).own (HN.out.inn).base (by omega) rfl rfl (by simp [exCell]; try omega) ?_; intro v5 w5 H5))
  go_ret
  exact ⟨_, rfl, Lib.hid (HN.out.push HH.out H5.out)⟩
set_option maxRecDepth 100000 in
set_option maxHeartbeats 4000000 in
theorem unary_var {B G r d : Nat} {v : Value} {t : Tok} {us us2 : List Tok} {l : List Ex} (w : World) (h : EIn B G w r v (t :: us) d l) (hk : t.kind = 1) {u : Tok} (hu : us = u :: us2) (hu9 : Hid (u.text ≠ [91])) :
    Calls Try.prog 81 #[.pointer (some ⟨r, 0, none⟩), v] w fun e w' => ∃ v', e = .returned v' ∧ Hid (EOut B G r v w w' v' us d (l ++ [⟨2, 0, 0, t.text, -1, -1, t.place⟩])) := by
  have hg := h.rd.good t (by simp)
  have hgg := (hg.plain (by omega)).2
  have n1 : t.text ≠ [45] := ne_sg hgg (by decide)
  have n2 : t.text ≠ [126] := ne_sg hgg (by decide)
  have n3 : t.text ≠ [40] := ne_sg hgg (by decide)
  have Hk := Lib.hid hk
  clear hgg hg hk
  subst hu
  have HU := Lib.hid (u_start h)
  have hsz := h.sz
  simp only [List.length_cons] at hsz
  obtain ⟨n, cap, p, c0, c1, c2, c3, f1, f2, hp, hn, hm, h8, hr, hG, k0, k1, k2⟩ := h.rd.head
  simp only [maxLen] at hm
  have HH := Lib.hid h
  clear h
  go_enter Try.func81, Try.ntmps81
  go_wp2
  go_region
  unfold tokV at HU
  generalize (w.alloc (.cells #[.int .i64 t.kind, .string ⟨t.text.toArray⟩, .int .i64 t.place] 83)).drew = W at *
  clear c0 c1 c2 c3 f1 f2 k0 k1 k2 hr hG hn hm h8 hp
  obtain ⟨z0, z1, z2⟩ := HU.out.cells
  rw [Hk.out] at z0
  go_upto_region 19 with (go_at_call 50; first | (refine (u_is_no HU.out (by decide) (by assumption)).mono ?_; clear HU z0 z1 z2; rintro e w1 ⟨rfl, HU⟩; obtain ⟨z0, z1, z2⟩ := HU.out.cells; rw [Hk.out] at z0))
  obtain ⟨n, cap, p, c0, c1, c2, c3, f1, f2, hp, hn, hm, h8, hr, hG, k0, k1, k2⟩ := HU.out.inn.rd.head
  have HN := Lib.hid (HU.out.next c1)
  go_upto_region 20 with fail
  generalize w1.setCell ⟨r, 1, none⟩ (.int .i64 ((p : Int) + 1)) = w2 at *
  clear z0 z1 z2 c0 c1 c2 c3 f1 f2 k0 k1 k2 hr hG hn hm h8 hp
  obtain ⟨z0, z1, z2⟩ := HN.out.cells
  go_wp2_with (first | (go_at_call 50; refine (is_no _ HN.out.inn.rd (by decide) hu9.out).mono ?_; rintro e w3 ⟨rfl, k3⟩; have HN3 := Lib.hid (HN.out.kept k3); clear HN k3 z0 z1 z2; obtain ⟨z0, z1, z2⟩ := HN3.out.cells) | (at_builtin; refine wpList_push rfl _ _ rfl (⟨2, 0, 0, t.text, -1, -1, t.place⟩) _ _ (HN3.out.inn).own (HN3.out.inn).base (by omega) rfl rfl (by simp [exCell]; try omega) ?_; intro v5 w5 H5))
  go_ret
  exact ⟨_, rfl, Lib.hid (HN3.out.push HH.out H5.out)⟩
set_option maxRecDepth 100000 in
set_option maxHeartbeats 4000000 in
theorem unary_elem {f : Nat} (HI : InnerSaid f) {B G r d : Nat} {v : Value} {t : Tok} {us us2 us3 : List Tok} {l l2 : List Ex} (w : World) (h : EIn B G w r v (t :: us) d l) (hk : t.kind = 1) {u : Tok} (hu : us = u :: us3) (hu9 : Hid (u.text = [91])) (hb : bracketF f [91] [93] us d none l = .ok us2 none l2) :
    Calls Try.prog 81 #[.pointer (some ⟨r, 0, none⟩), v] w fun e w' => ∃ v', e = .returned v' ∧ Hid (EOut B G r v w w' v' us2 d (l2 ++ [⟨3, 0, 0, t.text, (l2.length - 1 : Nat), -1, t.place⟩])) := by
  have hg := h.rd.good t (by simp)
  have hgg := (hg.plain (by omega)).2
  have n1 : t.text ≠ [45] := ne_sg hgg (by decide)
  have n2 : t.text ≠ [126] := ne_sg hgg (by decide)
  have n3 : t.text ≠ [40] := ne_sg hgg (by decide)
  have Hk := Lib.hid hk
  have Hb := Lib.hid hb
  have hgr := (grows f).bracket _ _ _ _ _ _ _ _ _ hb
  clear hgg hg hk hb
  subst hu
  simp only [List.length_cons] at hgr
  have HU := Lib.hid (u_start h)
  have hsz := h.sz
  simp only [List.length_cons] at hsz
  obtain ⟨n, cap, p, c0, c1, c2, c3, f1, f2, hp, hn, hm, h8, hr, hG, k0, k1, k2⟩ := h.rd.head
  simp only [maxLen] at hm
  have HH := Lib.hid h
  clear h
  go_enter Try.func81, Try.ntmps81
  go_wp2
  go_region
  unfold tokV at HU
  generalize (w.alloc (.cells #[.int .i64 t.kind, .string ⟨t.text.toArray⟩, .int .i64 t.place] 83)).drew = W at *
  clear c0 c1 c2 c3 f1 f2 k0 k1 k2 hr hG hn hm h8 hp
  obtain ⟨z0, z1, z2⟩ := HU.out.cells
  rw [Hk.out] at z0
  go_upto_region 19 with (go_at_call 50; first | (refine (u_is_no HU.out (by decide) (by assumption)).mono ?_; clear HU z0 z1 z2; rintro e w1 ⟨rfl, HU⟩; obtain ⟨z0, z1, z2⟩ := HU.out.cells; rw [Hk.out] at z0))
  obtain ⟨n, cap, p, c0, c1, c2, c3, f1, f2, hp, hn, hm, h8, hr, hG, k0, k1, k2⟩ := HU.out.inn.rd.head
  have HN := Lib.hid (HU.out.next c1)
  go_upto_region 20 with fail
  generalize w1.setCell ⟨r, 1, none⟩ (.int .i64 ((p : Int) + 1)) = w2 at *
  clear z0 z1 z2 c0 c1 c2 c3 f1 f2 k0 k1 k2 hr hG hn hm h8 hp
  obtain ⟨z0, z1, z2⟩ := HN.out.cells
  go_upto_region 22 with (go_at_call 50; refine (is_yes _ HN.out.inn.rd (by decide) hu9.out).mono ?_; rintro e w6 ⟨rfl, k3⟩; have HN3 := Lib.hid (HN.out.kept k3); clear HN k3 z0 z1 z2; obtain ⟨z0, z1, z2⟩ := HN3.out.cells)
  have HN := HN3
  go_wp2_with (first | (go_at_call 92; refine (HI (o := [91]) (c := [93]) _ (by decide) (by decide) HN.out.inn Hb.out).mono ?_; rintro e w3 ⟨v3, rfl, H3⟩; obtain ⟨a3, c3, rfl⟩ := own_form H3.out.to.own; clear z0 z1 z2; obtain ⟨z0, z1, z2⟩ := cells_of (H3.out.box HN.out.inn HN.out.box)) | (at_builtin; refine wpList_push rfl _ _ rfl (⟨3, 0, 0, t.text, (l2.length - 1 : Nat), -1, t.place⟩) _ _ (H3.out.to).own (H3.out.to).base (by omega) rfl rfl (by simp [exCell]; try omega) ?_; intro v5 w5 H5))
  go_ret
  exact ⟨_, rfl, Lib.hid (HN.out.push2 HH.out H3.out H5.out (by simp) (by omega))⟩
set_option maxRecDepth 100000 in
set_option maxHeartbeats 4000000 in
theorem unary_old {f : Nat} (HI : InnerSaid f) {B G r d : Nat} {v : Value} {t : Tok} {us us2 : List Tok} {l l2 : List Ex} (w : World) (h : EIn B G w r v (t :: us) d l) (ht : t.text = [111, 108, 100]) (hb : bracketF f [40] [41] us d none l = .ok us2 none l2) :
    Calls Try.prog 81 #[.pointer (some ⟨r, 0, none⟩), v] w fun e w' => ∃ v', e = .returned v' ∧ Hid (EOut B G r v w w' v' us2 d (l2 ++ [⟨4, 0, 0, [], (l2.length - 1 : Nat), -1, t.place⟩])) := by
  have n1 : t.text ≠ [45] := by rw [ht]; decide
  have n2 : t.text ≠ [126] := by rw [ht]; decide
  have n3 : t.text ≠ [40] := by rw [ht]; decide
  have hk := (h.rd.good t (by simp)).key (by rw [ht]; decide)
  have Hb := Lib.hid hb
  have hgr := (grows f).bracket _ _ _ _ _ _ _ _ _ hb
  have Hk := Lib.hid hk
  have Ht := Lib.hid ht
  clear hb hk ht
  have HU := Lib.hid (u_start h)
  have hsz := h.sz
  simp only [List.length_cons] at hsz
  obtain ⟨n, cap, p, c0, c1, c2, c3, f1, f2, hp, hn, hm, h8, hr, hG, k0, k1, k2⟩ := h.rd.head
  simp only [maxLen] at hm
  have HH := Lib.hid h
  clear h
  go_enter Try.func81, Try.ntmps81
  go_wp2
  go_region
  unfold tokV at HU
  generalize (w.alloc (.cells #[.int .i64 t.kind, .string ⟨t.text.toArray⟩, .int .i64 t.place] 83)).drew = W at *
  clear c0 c1 c2 c3 f1 f2 k0 k1 k2 hr hG hn hm h8 hp
  obtain ⟨z0, z1, z2⟩ := HU.out.cells
  rw [Hk.out] at z0
  go_upto_region 24 with (go_at_call 50; first | (refine (u_is_no HU.out (by decide) (by assumption)).mono ?_; clear HU z0 z1 z2; rintro e w1 ⟨rfl, HU⟩; obtain ⟨z0, z1, z2⟩ := HU.out.cells; rw [Hk.out] at z0))
  go_upto_region 25 with (go_at_call 64; refine (u_take_yes HU.out (by decide) Ht.out).mono ?_; clear HU z0 z1 z2; rintro e w2 ⟨rfl, HN⟩; obtain ⟨z0, z1, z2⟩ := HN.out.cells)
  go_wp2_with (first | (go_at_call 92; refine (HI (o := [40]) (c := [41]) _ (by decide) (by decide) HN.out.inn Hb.out).mono ?_; rintro e w3 ⟨v3, rfl, H3⟩; obtain ⟨a3, c3, rfl⟩ := own_form H3.out.to.own; clear z0 z1 z2; obtain ⟨z0, z1, z2⟩ := cells_of (H3.out.box HN.out.inn HN.out.box)) | (at_builtin; refine wpList_push rfl _ _ rfl (⟨4, 0, 0, [], (l2.length - 1 : Nat), -1, t.place⟩) _ _ (H3.out.to).own (H3.out.to).base (by omega) rfl rfl (by simp [exCell]; try omega) ?_; intro v5 w5 H5))
  go_ret
  exact ⟨_, rfl, Lib.hid (HN.out.push2 HH.out H3.out H5.out (by simp) (by omega))⟩
set_option maxRecDepth 100000 in
set_option maxHeartbeats 4000000 in
theorem unary_result {B G r d : Nat} {v : Value} {t : Tok} {us : List Tok} {l : List Ex} (w : World) (h : EIn B G w r v (t :: us) d l) (ht : t.text = [114, 101, 115, 117, 108, 116]) :
    Calls Try.prog 81 #[.pointer (some ⟨r, 0, none⟩), v] w fun e w' => ∃ v', e = .returned v' ∧ Hid (EOut B G r v w w' v' us d (l ++ [⟨5, 0, 0, [], -1, -1, t.place⟩])) := by
  have n1 : t.text ≠ [45] := by rw [ht]; decide
  have n2 : t.text ≠ [126] := by rw [ht]; decide
  have n3 : t.text ≠ [40] := by rw [ht]; decide
  have n4 : t.text ≠ [111, 108, 100] := by rw [ht]; decide
  have hk := (h.rd.good t (by simp)).key (by rw [ht]; decide)
  have Hk := Lib.hid hk
  have Ht := Lib.hid ht
  clear hk ht
  have HU := Lib.hid (u_start h)
  have hsz := h.sz
  simp only [List.length_cons] at hsz
  obtain ⟨n, cap, p, c0, c1, c2, c3, f1, f2, hp, hn, hm, h8, hr, hG, k0, k1, k2⟩ := h.rd.head
  simp only [maxLen] at hm
  have HH := Lib.hid h
  clear h
  go_enter Try.func81, Try.ntmps81
  go_wp2
  go_region
  unfold tokV at HU
  generalize (w.alloc (.cells #[.int .i64 t.kind, .string ⟨t.text.toArray⟩, .int .i64 t.place] 83)).drew = W at *
  clear c0 c1 c2 c3 f1 f2 k0 k1 k2 hr hG hn hm h8 hp
  obtain ⟨z0, z1, z2⟩ := HU.out.cells
  rw [Hk.out] at z0
  go_upto_region 27 with (first | (go_at_call 50; first | (refine (u_is_no HU.out (by decide) (by assumption)).mono ?_; clear HU z0 z1 z2; rintro e w1 ⟨rfl, HU⟩; obtain ⟨z0, z1, z2⟩ := HU.out.cells; rw [Hk.out] at z0)) | (go_at_call 64; refine (u_take_no HU.out (by decide) (by assumption)).mono ?_; clear HU z0 z1 z2; rintro e w1 ⟨rfl, HU⟩; obtain ⟨z0, z1, z2⟩ := HU.out.cells; rw [Hk.out] at z0))
  go_upto_region 28 with (go_at_call 64; refine (u_take_yes HU.out (by decide) Ht.out).mono ?_; clear HU z0 z1 z2; rintro e w2 ⟨rfl, HN⟩; obtain ⟨z0, z1, z2⟩ := HN.out.cells)
  go_wp2_with (at_builtin; refine wpList_push rfl _ _ rfl (⟨5, 0, 0, [], -1, -1, t.place⟩) _ _ (HN.out.inn).own (HN.out.inn).base (by omega) rfl rfl (by simp [exCell]; try omega) ?_; intro v5 w5 H5)
  go_ret
  exact ⟨_, rfl, Lib.hid (HN.out.push HH.out H5.out)⟩
set_option maxRecDepth 100000 in
set_option maxHeartbeats 4000000 in
theorem unary_paren {f : Nat} (HI : InnerSaid f) {B G r d : Nat} {v : Value} {t : Tok} {us us2 : List Tok} {l l2 : List Ex} (w : World) (h : EIn B G w r v (t :: us) d l) (ht : t.text = [40]) (hb : bracketF f [40] [41] (t :: us) d none l = .ok us2 none l2) :
    Calls Try.prog 81 #[.pointer (some ⟨r, 0, none⟩), v] w fun e w' => ∃ v', e = .returned v' ∧ Hid (EOut B G r v w w' v' us2 d (l2)) := by
  have n1 : t.text ≠ [45] := by rw [ht]; decide
  have n2 : t.text ≠ [126] := by rw [ht]; decide
  have Hb := Lib.hid hb
  have Ht := Lib.hid ht
  clear hb ht
  have HU := Lib.hid (u_start h)
  have hsz := h.sz
  simp only [List.length_cons] at hsz
  obtain ⟨n, cap, p, c0, c1, c2, c3, f1, f2, hp, hn, hm, h8, hr, hG, k0, k1, k2⟩ := h.rd.head
  simp only [maxLen] at hm
  have HH := Lib.hid h
  clear h
  go_enter Try.func81, Try.ntmps81
  go_wp2
  go_region
  unfold tokV at HU
  generalize (w.alloc (.cells #[.int .i64 t.kind, .string ⟨t.text.toArray⟩, .int .i64 t.place] 83)).drew = W at *
  clear c0 c1 c2 c3 f1 f2 k0 k1 k2 hr hG hn hm h8 hp
  obtain ⟨z0, z1, z2⟩ := HU.out.cells
  go_upto_region 13 with (go_at_call 50; first | (refine (u_is_no HU.out (by decide) (by assumption)).mono ?_; clear HU z0 z1 z2; rintro e w1 ⟨rfl, HU⟩; obtain ⟨z0, z1, z2⟩ := HU.out.cells) | (refine (u_is_yes HU.out (by decide) Ht.out).mono ?_; clear HU z0 z1 z2; rintro e w1 ⟨rfl, HU⟩; obtain ⟨z0, z1, z2⟩ := HU.out.cells))
  go_wp2_with (go_at_call 92; refine (HI (o := [40]) (c := [41]) _ (by decide) (by decide) HU.out.inn Hb.out).mono ?_; rintro e w3 ⟨v3, rfl, H3⟩)
  go_ret
  exact ⟨_, rfl, Lib.hid ((EOut.of_reader HH.out (Chg.of_kept HU.out.kept) HU.out.inn.rd (Nat.le_refl _)).trans H3.out)⟩
set_option maxRecDepth 100000 in
set_option maxHeartbeats 4000000 in
theorem unary_neg {f : Nat} (HI : UnarySaid f) {B G r d : Nat} {v : Value} {t : Tok} {us us2 : List Tok} {l l2 : List Ex} (w : World) (h : EIn B G w r v (t :: us) d l) (ht : t.text = [45]) (hb : unaryF f us (d + 1) none l = .ok us2 none l2) (hd : d < 30) :
    Calls Try.prog 81 #[.pointer (some ⟨r, 0, none⟩), v] w fun e w' => ∃ v', e = .returned v' ∧ Hid (EOut B G r v w w' v' us2 d (l2 ++ [⟨6, 0, 0, [], (l2.length - 1 : Nat), -1, t.place⟩])) := by
  have n1 : t.text ≠ [126] := by rw [ht]; decide
  have Hb := Lib.hid hb
  have hgr := (grows f).unary _ _ _ _ _ _ _ hb
  obtain ⟨hg1, hg2, hg3⟩ := hgr
  have Ht := Lib.hid ht
  clear hb ht
  have HU := Lib.hid (u_start h)
  have hsz := h.sz
  simp only [List.length_cons] at hsz
  obtain ⟨n, cap, p, c0, c1, c2, c3, f1, f2, hp, hn, hm, h8, hr, hG, k0, k1, k2⟩ := h.rd.head
  simp only [maxLen] at hm
  have HH := Lib.hid h
  clear h
  go_enter Try.func81, Try.ntmps81
  go_wp2
  go_region
  unfold tokV at HU
  generalize (w.alloc (.cells #[.int .i64 t.kind, .string ⟨t.text.toArray⟩, .int .i64 t.place] 83)).drew = W at *
  clear c0 c1 c2 c3 f1 f2 k0 k1 k2 hr hG hn hm h8 hp
  obtain ⟨z0, z1, z2⟩ := HU.out.cells
  rw [Ht.out] at z1
  go_upto_region 8 with (go_at_call 50; first | (refine (u_is_no HU.out (by decide) (by assumption)).mono ?_; clear HU z0 z1 z2; rintro e w1 ⟨rfl, HU⟩; obtain ⟨z0, z1, z2⟩ := HU.out.cells; rw [Ht.out] at z1) | (refine (u_is_yes HU.out (by decide) Ht.out).mono ?_; clear HU z0 z1 z2; rintro e w1 ⟨rfl, HU⟩; obtain ⟨z0, z1, z2⟩ := HU.out.cells; rw [Ht.out] at z1))
  go_upto_region 10 with (first | (go_at_call 70; refine (open_yes (s := [45]) _ HU.out.inn.rd (by decide) Ht.out hd).mono ?_; rintro e w2 ⟨rfl, H2⟩; have HN := Lib.hid (HU.out.deeper H2.out.1 H2.out.2); clear z0 z1 z2; obtain ⟨z0, z1, z2⟩ := HN.out.cells) | (go_at_call 81; refine (HI _ HN.out.inn Hb.out).mono ?_; rintro e w3 ⟨v3, rfl, H3⟩; obtain ⟨a3, c3, rfl⟩ := own_form H3.out.to.own; have HB3 := Lib.hid (H3.out.box HN.out.inn HN.out.box)))
  obtain ⟨x1, x2, x3⟩ := H3.out.to.rd.deep_cell
  have hx := Lib.hid (H3.out.up HB3.out)
  have hdd : (((d + 1 : Nat) : Int) - 1) = d := by omega
  have hdd' : ((d : Int) + 1 - 1) = d := by omega
  go_upto_region 11 with fail
  generalize w3.setCell ⟨r, 2, none⟩ (.int .i64 d) = w4 at *
  clear z0 z1 z2 x1 x2 x3
  obtain ⟨z0, z1, z2⟩ := cells_of hx.out.2
  go_wp2_with (at_builtin; refine wpList_push rfl _ _ rfl (⟨6, 0, 0, [], (l2.length - 1 : Nat), -1, t.place⟩) _ _ (hx.out.1.to).own (hx.out.1.to).base (by omega) rfl rfl (by simp [exCell]; try omega) ?_; intro v5 w5 H5)
  go_ret
  exact ⟨_, rfl, Lib.hid (HN.out.push2 HH.out hx.out.1 H5.out (by simp) (by omega))⟩
set_option maxRecDepth 100000 in
set_option maxHeartbeats 4000000 in
theorem unary_com {f : Nat} (HI : UnarySaid f) {B G r d : Nat} {v : Value} {t : Tok} {us us2 : List Tok} {l l2 : List Ex} (w : World) (h : EIn B G w r v (t :: us) d l) (ht : t.text = [126]) (hb : unaryF f us (d + 1) none l = .ok us2 none l2) (hd : d < 30) :
    Calls Try.prog 81 #[.pointer (some ⟨r, 0, none⟩), v] w fun e w' => ∃ v', e = .returned v' ∧ Hid (EOut B G r v w w' v' us2 d (l2 ++ [⟨7, 0, 0, [], (l2.length - 1 : Nat), -1, t.place⟩])) := by
  have n1 : t.text ≠ [45] := by rw [ht]; decide
  have Hb := Lib.hid hb
  have hgr := (grows f).unary _ _ _ _ _ _ _ hb
  obtain ⟨hg1, hg2, hg3⟩ := hgr
  have Ht := Lib.hid ht
  clear hb ht
  have HU := Lib.hid (u_start h)
  have hsz := h.sz
  simp only [List.length_cons] at hsz
  obtain ⟨n, cap, p, c0, c1, c2, c3, f1, f2, hp, hn, hm, h8, hr, hG, k0, k1, k2⟩ := h.rd.head
  simp only [maxLen] at hm
  have HH := Lib.hid h
  clear h
  go_enter Try.func81, Try.ntmps81
  go_wp2
  go_region
  unfold tokV at HU
  generalize (w.alloc (.cells #[.int .i64 t.kind, .string ⟨t.text.toArray⟩, .int .i64 t.place] 83)).drew = W at *
  clear c0 c1 c2 c3 f1 f2 k0 k1 k2 hr hG hn hm h8 hp
  obtain ⟨z0, z1, z2⟩ := HU.out.cells
  rw [Ht.out] at z1
  go_upto_region 8 with (go_at_call 50; first | (refine (u_is_no HU.out (by decide) (by assumption)).mono ?_; clear HU z0 z1 z2; rintro e w1 ⟨rfl, HU⟩; obtain ⟨z0, z1, z2⟩ := HU.out.cells; rw [Ht.out] at z1) | (refine (u_is_yes HU.out (by decide) Ht.out).mono ?_; clear HU z0 z1 z2; rintro e w1 ⟨rfl, HU⟩; obtain ⟨z0, z1, z2⟩ := HU.out.cells; rw [Ht.out] at z1))
  go_upto_region 10 with (first | (go_at_call 70; refine (open_yes (s := [126]) _ HU.out.inn.rd (by decide) Ht.out hd).mono ?_; rintro e w2 ⟨rfl, H2⟩; have HN := Lib.hid (HU.out.deeper H2.out.1 H2.out.2); clear z0 z1 z2; obtain ⟨z0, z1, z2⟩ := HN.out.cells) | (go_at_call 81; refine (HI _ HN.out.inn Hb.out).mono ?_; rintro e w3 ⟨v3, rfl, H3⟩; obtain ⟨a3, c3, rfl⟩ := own_form H3.out.to.own; have HB3 := Lib.hid (H3.out.box HN.out.inn HN.out.box)))
  obtain ⟨x1, x2, x3⟩ := H3.out.to.rd.deep_cell
  have hx := Lib.hid (H3.out.up HB3.out)
  have hdd : (((d + 1 : Nat) : Int) - 1) = d := by omega
  have hdd' : ((d : Int) + 1 - 1) = d := by omega
  go_upto_region 11 with fail
  generalize w3.setCell ⟨r, 2, none⟩ (.int .i64 d) = w4 at *
  clear z0 z1 z2 x1 x2 x3
  obtain ⟨z0, z1, z2⟩ := cells_of hx.out.2
  go_wp2_with (at_builtin; refine wpList_push rfl _ _ rfl (⟨7, 0, 0, [], (l2.length - 1 : Nat), -1, t.place⟩) _ _ (hx.out.1.to).own (hx.out.1.to).base (by omega) rfl rfl (by simp [exCell]; try omega) ?_; intro v5 w5 H5)
  go_ret
  exact ⟨_, rfl, Lib.hid (HN.out.push2 HH.out hx.out.1 H5.out (by simp) (by omega))⟩
set_option maxRecDepth 100000 in
set_option maxHeartbeats 4000000 in
theorem unary_cast {f : Nat} (HI : InnerSaid f) {B G r d : Nat} {v : Value} {t : Tok} {us us2 : List Tok} {l l2 : List Ex} (w : World) (h : EIn B G w r v (t :: us) d l) (ht : readT t.text ≠ 0) (hb : bracketF f [40] [41] us d none l = .ok us2 none l2) :
    Calls Try.prog 81 #[.pointer (some ⟨r, 0, none⟩), v] w fun e w' => ∃ v', e = .returned v' ∧ Hid (EOut B G r v w w' v' us2 d (l2 ++ [⟨18, 0, readT t.text, [], (l2.length - 1 : Nat), -1, t.place⟩])) := by
  have hky := (read_key ht).1
  have hsg := (read_key ht).2
  have n1 : t.text ≠ [45] := ne_sg hsg (by decide)
  have n2 : t.text ≠ [126] := ne_sg hsg (by decide)
  have n3 : t.text ≠ [40] := ne_sg hsg (by decide)
  have n4 : t.text ≠ [111, 108, 100] := by intro e; rw [e] at ht; exact ht rfl
  have n5 : t.text ≠ [114, 101, 115, 117, 108, 116] := by intro e; rw [e] at ht; exact ht rfl
  have hk := (h.rd.good t (by simp)).key hky
  have Hb := Lib.hid hb
  have hgr := (grows f).bracket _ _ _ _ _ _ _ _ _ hb
  have Hk := Lib.hid hk
  have HR := Lib.hid (fun w => Lex.rread_v ⟨t.text.toArray⟩ w (readT t.text) (read_readT _))
  have hT0 : 0 < readT t.text := by omega
  generalize hT : readT t.text = T at *
  have hTb : ((0 : Int) < (T : Int)) := by omega
  clear hb hk hky hsg hT ht
  have HU := Lib.hid (u_start h)
  have hsz := h.sz
  simp only [List.length_cons] at hsz
  obtain ⟨n, cap, p, c0, c1, c2, c3, f1, f2, hp, hn, hm, h8, hr, hG, k0, k1, k2⟩ := h.rd.head
  simp only [maxLen] at hm
  have HH := Lib.hid h
  clear h
  go_enter Try.func81, Try.ntmps81
  go_wp2
  go_region
  unfold tokV at HU
  generalize (w.alloc (.cells #[.int .i64 t.kind, .string ⟨t.text.toArray⟩, .int .i64 t.place] 83)).drew = W at *
  clear c0 c1 c2 c3 f1 f2 k0 k1 k2 hr hG hn hm h8 hp
  obtain ⟨z0, z1, z2⟩ := HU.out.cells
  rw [Hk.out] at z0
  go_upto_region 29 with (first | (go_at_call 50; first | (refine (u_is_no HU.out (by decide) (by assumption)).mono ?_; clear HU z0 z1 z2; rintro e w1 ⟨rfl, HU⟩; obtain ⟨z0, z1, z2⟩ := HU.out.cells; rw [Hk.out] at z0)) | (go_at_call 64; refine (u_take_no HU.out (by decide) (by assumption)).mono ?_; clear HU z0 z1 z2; rintro e w1 ⟨rfl, HU⟩; obtain ⟨z0, z1, z2⟩ := HU.out.cells; rw [Hk.out] at z0))
  go_upto_region 30 with (go_at_call 61; refine (HR.out _).mono ?_; rintro e w6 ⟨rfl, k6⟩; have HU6 := Lib.hid (HU.out.step k6))
  clear HU z0 z1 z2
  have HU := HU6
  obtain ⟨z0, z1, z2⟩ := HU.out.cells
  obtain ⟨n, cap, p, c0, c1, c2, c3, f1, f2, hp, hn, hm, h8, hr, hG, k0, k1, k2⟩ := HU.out.inn.rd.head
  have HN := Lib.hid (HU.out.next c1)
  go_upto_region 31 with fail
  generalize w6.setCell ⟨r, 1, none⟩ (.int .i64 ((p : Int) + 1)) = w2 at *
  clear z0 z1 z2 c0 c1 c2 c3 f1 f2 k0 k1 k2 hr hG hn hm h8 hp
  obtain ⟨z0, z1, z2⟩ := HN.out.cells
  go_upto_region 32 with (go_at_call 92; refine (HI (o := [40]) (c := [41]) _ (by decide) (by decide) HN.out.inn Hb.out).mono ?_; rintro e w3 ⟨v3, rfl, H3⟩; obtain ⟨a3, c3, rfl⟩ := own_form H3.out.to.own; have HB3 := Lib.hid (H3.out.box HN.out.inn HN.out.box); clear z0 z1 z2; obtain ⟨z0, z1, z2⟩ := cells_of (H3.out.box HN.out.inn HN.out.box))
  have hwr : IntKind.i64.wrap ((l2.length : Int) - 1) = ((l2.length - 1 : Nat) : Int) := by rw [IntWalk.i64_in _ (by omega)]; omega
  go_region_held3 (fun w' => w'.cell? ⟨w.heap.size, 1, none⟩ = some (.string ⟨t.text.toArray⟩) ∧ w'.cell? ⟨w.heap.size, 2, none⟩ = some (.int .i64 t.place))
    (first | go_keep | exact ⟨y1, y2⟩ | exact ⟨x1, x2⟩)
    (first | (go_at_call 61; refine (HR.out _).mono ?_; rintro e w9 ⟨rfl, k9⟩; have K9 := Lib.hid ((Kept.refl w3).drew.trans k9); have H9 := Lib.hid (H3.out.trans (EOut.of_reader H3.out.to (Chg.of_kept K9.out) (H3.out.to.rd.kept K9.out) (Nat.le_refl _))); have HB9 := Lib.hid ((Chg.of_kept (S := fun _ => False) K9.out).heap HB3.out id); obtain ⟨y0, y1, y2⟩ := cells_of HB9.out; clear k9) | (refine step_push rfl _ _ rfl (⟨18, 0, T, [], (l2.length - 1 : Nat), -1, t.place⟩) _ w9 H9.out.to.own H9.out.to.base (by omega) rfl rfl (by simp [exCell]) ?_; intro v5 w5 H5; have HB5 := Lib.hid (H5.out.chg.heap HB9.out (fun hs => by obtain ⟨_, c', hc'⟩ := own_at H9.out.to.own hs; exact ne_of_ty HB9.out hc' (by decide) rfl)); obtain ⟨x0, x1, x2⟩ := cells_of HB5.out))
  go_wp2_with fail
  go_ret
  exact ⟨_, rfl, Lib.hid (HN.out.push2 HH.out H9.out H5.out (by simp) (by omega))⟩
end Go.Proofs.Ythjnkjekidagiaa.Rpr
