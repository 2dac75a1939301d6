/-
  The contract of unary, out of those of inBrackets, index and signed.
-/
import Derived.Test.YtoafcpbpnkfhoaaGreatDoorPrsD
namespace Go.Proofs.YtoafcpbpnkfhoaaGreatDoor.Prs
open Go.RowKit
open Lex (Tok Laid)
attribute [local go_sem] tok0 tok1 tok2

/-- A block b that is none of those that a reading call touches. -/
structure Far (B G r q b : Nat) (v : Value) : Prop where
  r : b ≠ r
  g : b ≠ G
  q : b ≠ q
  v : v.ownBlock ≠ some b
  le : B ≤ b
section
variable {B G : Nat} {w w' : World} {r q o b : Nat} {cur : Array Value} {t : TypeId} {v v' : Value} {us us' : List Tok} {d d' : Nat} {dp dp' : Option Nat} {l : List Ex}
theorem ExIn.far (h : ExIn B G w r q o cur t v us d dp l) (hb : w.heap.size ≤ b) : Far B G r q b v :=
  ⟨by have := h.rd.lt; omega, by have := h.rd.ltG; omega, by have := box_lt h.box; omega, fun e => by have := (h.no e).2.2.2.2; omega, by have := h.size; omega⟩
theorem Far.mv (h : Far B G r q b v) (m : Mv r q v w w' v') (hb : b < w.heap.size) : Far B G r q b v' :=
  ⟨h.r, h.g, h.q, fun e => by
    rcases m.at_ with e' | ⟨g, e', hg⟩
    · exact h.v (e' ▸ e)
    · rw [e'] at e; injection e with e; omega, h.le⟩
theorem Far.box (h : Far B G r q b v) (m : Mv r q v w w' v') {x : Obj} (hb : w.heap[b]? = some x) : w'.heap[b]? = some x :=
  m.chg.heap hb fun s => s.elim h.r fun s => s.elim h.q h.v
theorem ExIn.other (h : ExIn B G w r q o cur t v us d dp l) (hf : Far B G r q b v) (hc : Chg (fun k => k = b) w w') : ExIn B G w' r q o cur t v us d dp l :=
  ⟨h.rd.chg hc fun k e => by subst e; exact ⟨hf.le, hf.r, hf.g⟩, hc.heap h.box (Ne.symm hf.q), h.lo, h.ty, own_chg h.own hc (fun _ hg e => hf.v (e ▸ hg)), h.sz, h.above⟩
theorem ExIn.setb (h : ExIn B G w r q o cur t v us d dp l) (hf : Far B G r q b v) (i : Nat) (u : Value) : ExIn B G (w.setCell ⟨b, i, none⟩ u) r q o cur t v us d dp l := h.other hf (chg_set w b i u)
theorem ExIn.add (h : ExIn B G w r q o cur t v us d dp l) {e : Ex} (hs : l.length + 1 + us.length ≤ 8193)
    (hc : Chg (fun j => j = q ∨ v.ownBlock = some j) w w' ∧ ∃ v', Put w w' q o (cur.setIfInBounds o v) t v v' ∧ w'.ownsRow B 152 7 v' (l ++ [e]).length (exCells (l ++ [e]))) :
    ∃ v', Mv r q v w w' v' ∧ ExIn B G w' r q o cur t v' us d dp (l ++ [e]) := by
  obtain ⟨hc, v', hp, hown⟩ := hc
  refine ⟨v', ⟨hc.mono fun _ _ s => .inr s, hp.at_⟩, h.rd.chg hc fun k s => ?_, by simpa using hp.box, h.lo, h.ty, hown, by simp; omega, h.above⟩
  rcases s with rfl | s
  · exact ⟨h.above, h.nr⟩
  · have := h.no s; exact ⟨this.2.2.2.1, this.1, this.2.1⟩
/-- Changes of new blocks are not seen. -/
theorem Mv.new {w1 w2 : World} (h : Mv r q v w w1 v') (hb : w.heap.size ≤ b) (hc : Chg (fun k => k = b) w1 w2) : Mv r q v w w2 v' :=
  ⟨h.chg.trans hc fun i hi e => by omega, h.at_⟩
end
def nodeV (k n t : Int) (s : ByteArray) (a b p : Int) : Array Value := #[.int .i64 k, .int .i64 n, .int .i64 t, .string s, .int .i64 a, .int .i64 b, .int .i64 p]

/-- The token's and the node's own variables are made. -/
theorem unary_pre {B G : Nat} {w w1 : World} {r q o : Nat} {cur : Array Value} {t : TypeId} {v : Value} {us : List Tok} {d : Nat} {dp : Option Nat} {l : List Ex} (h : ExIn B G w r q o cur t v us d dp l) (hk : Kept w w1) (T N : Array Value) :
    ExIn B G ((w1.alloc (.cells T 62)).alloc (.cells N 152)) r q o cur t v us d dp l ∧ ((w1.alloc (.cells T 62)).alloc (.cells N 152)).heap[w1.heap.size + 1]? = some (.cells N 152 (0, 0)) ∧
      Far B G r q (w1.heap.size + 1) v ∧ Kept w ((w1.alloc (.cells T 62)).alloc (.cells N 152)) ∧ w.heap.size ≤ w1.heap.size ∧ w1.heap.size + 1 < ((w1.alloc (.cells T 62)).alloc (.cells N 152)).heap.size := by
  have hs := Below.size hk
  have K : Kept w ((w1.alloc (.cells T 62)).alloc (.cells N 152)) := (hk.alloc _).alloc _
  refine ⟨h.kept K, ?_, h.far (by omega), K, hs, by simp⟩
  have := heap_alloc_new (w1.alloc (.cells T 62)) (.cells N 152)
  simpa using this

set_option maxRecDepth 100000 in
set_option maxHeartbeats 4000000 in
theorem unary_num {f : Nat} {B G r q o d : Nat} {cur : Array Value} {t : TypeId} {v : Value} {u : Tok} {us : List Tok} {dp : Option Nat} {l : List Ex} (w : World) (h : ExIn B G w r q o cur t v (u :: us) d dp l) (hk : u.kind = 2) :
    Calls Tryz.prog 97 #[.pointer (some ⟨r, 0, none⟩), .pointer (some ⟨q, o, none⟩)] w (ExPost B G r q o cur t v w (u :: us) d l (unaryF (f + 1) (u :: us) d dp l)) := by
  have e : unaryF (f + 1) (u :: us) d dp l = .ok us dp (l ++ [⟨1, (numF u.text).1, (numF u.text).2, [], -1, -1, u.place⟩]) := by simp [unaryF, hk]
  rw [e]; clear e
  have HP := Lib.hid (peek_any w h.rd)
  have HH := Lib.hid h
  have hsz := h.sz
  simp only [List.length_cons] at hsz
  rw [hk] at HP
  have Hk := Lib.hid hk
  clear h hk
  go_enter Tryz.func97, Tryz.ntmps97
  go_upto_region 6 with (go_at_call 14; refine (HP.out).mono ?_; rintro e w1 ⟨rfl, H1⟩)
  obtain ⟨I, hb, F, K, s1, s2⟩ := unary_pre HH.out H1.out #[.int .i64 2, .string ⟨u.text.toArray⟩, .int .i64 u.place] (nodeV 1 0 0 ⟨#[]⟩ (-1) (-1) u.place)
  have HN := Lib.hid (num_yes _ I.rd Hk.out)
  have HI := Lib.hid I
  have HF := Lib.hid F
  have HK := Lib.hid K
  have Hb := Lib.hid hb
  clear I F K hb
  unfold nodeV at HN HI HK Hb
  generalize (numF u.text).1 = n1 at *
  generalize (numF u.text).2 = n2 at *
  go_upto_region 22 with (go_at_call 49; refine (HN.out).mono ?_; rintro e w2 ⟨rfl, H2⟩; have hb2 := H2.out.1.heap Hb.out HF.out.r; have z0 := box_cell hb2 0 _ rfl; have z1 := box_cell hb2 1 _ rfl; have z2 := box_cell hb2 2 _ rfl; have z3 := box_cell hb2 3 _ rfl; have z4 := box_cell hb2 4 _ rfl; have z5 := box_cell hb2 5 _ rfl; have z6 := box_cell hb2 6 _ rfl; have y0 := box_froz hb2; clear hb2)
  have I2 := Lib.hid (HI.out.reader H2.out.1 H2.out.2 (by simp))
  have I3 := (I2.out.setb HF.out 1 (.int .i64 n1)).setb HF.out 2 (.int .i64 n2)
  have HA := Lib.hid (addExpr_any ⟨1, n1, n2, [], -1, -1, u.place⟩ 1 n1 n2 (-1) (-1) u.place ⟨#[]⟩ _ I3.box I3.cell I3.ty.1 I3.own I3.size (by omega) rfl)
  have HI3 := Lib.hid I3
  clear I3
  go_wp2_with (go_at_call 99; refine (HA.out).mono ?_; rintro e w4 ⟨rfl, H4⟩)
  go_ret
  obtain ⟨v4, m4, i4⟩ := HI3.out.add (by omega) H4.out
  refine ⟨by simp, Lib.hid ⟨v4, ((((Mv.kept HK.out).trans (Mv.reader H2.out.1)).new (by omega) (chg_set _ _ 1 _)).new (by omega) (chg_set _ _ 2 _)).trans m4, i4, by simp; omega, by simp⟩⟩
-- GEN
set_option maxRecDepth 100000 in
set_option maxHeartbeats 4000000 in
theorem unary_cast {f : Nat} (HB : BracketSaid f) {B G r q o d : Nat} {cur : Array Value} {t : TypeId} {v : Value} {u : Tok} {us : List Tok} {dp : Option Nat} {l : List Ex} (w : World) (h : ExIn B G w r q o cur t v (u :: us) d dp l) (h2 : u.kind ≠ 2) (h1 : u.kind ≠ 1) (hT : readT u.text ≠ 0) (hne : unaryF (f + 1) (u :: us) d dp l ≠ .out) :
    Calls Tryz.prog 97 #[.pointer (some ⟨r, 0, none⟩), .pointer (some ⟨q, o, none⟩)] w (ExPost B G r q o cur t v w (u :: us) d l (unaryF (f + 1) (u :: us) d dp l)) := by
  have e : unaryF (f + 1) (u :: us) d dp l = (bracketF f [40] [41] us d dp l).bind fun us2 dp2 l2 => .ok us2 dp2 (l2 ++ [⟨18, 0, readT u.text, [], (l2.length - 1 : Nat), -1, u.place⟩]) := by simp [unaryF, h1, h2, hT]
  rw [e] at hne ⊢; clear e
  have HP := Lib.hid (peek_any w h.rd)
  have HH := Lib.hid h
  have hsz := h.sz
  simp only [List.length_cons] at hsz
  have hle : us.length ≤ (u :: us).length := by simp
  have hk2 : ((u.kind : Int) == 2) = false := by simp; omega
  have hk1 : ((u.kind : Int) == 1) = false := by simp; omega
  have HT := Lib.hid (read_any u.text)
  have HTn := Lib.hid hT
  have hTb : ((readT u.text : Int) != 0) = true := by rw [bne_iff_ne]; omega
  clear h h1 h2 hT
  cases hc : bracketF f [40] [41] us d dp l with
  | out => rw [hc] at hne; exact absurd rfl hne
  | bad k =>
    clear hne
    have Hc := Lib.hid hc
    clear hc
    go_enter Tryz.func97, Tryz.ntmps97
    go_upto_region 10 with (first | (go_at_call 14; refine (HP.out).mono ?_; rintro e w1 ⟨rfl, H1⟩) | (go_at_call 47; refine (HT.out _).mono ?_; rintro e w' ⟨rfl, rfl⟩))
    obtain ⟨I, hb, F, K, s1, s2⟩ := unary_pre HH.out H1.out #[.int .i64 u.kind, .string ⟨u.text.toArray⟩, .int .i64 u.place] (nodeV 0 0 0 ⟨#[]⟩ (-1) (-1) u.place)
    have HI := Lib.hid I
    have HF := Lib.hid F
    have HK := Lib.hid K
    have Hb := Lib.hid hb
    clear I F K hb
    unfold nodeV at HI HK Hb
    have HN := Lib.hid (type_yes _ HI.out.rd HTn.out)
    generalize readT u.text = T at *
    go_upto_region 11 with (go_at_call 25; refine (HN.out).mono ?_; rintro e w2 ⟨rfl, H2⟩; have hb2 := H2.out.1.heap Hb.out HF.out.r; have z0 := box_cell hb2 0 _ rfl; have z1 := box_cell hb2 1 _ rfl; have z2 := box_cell hb2 2 _ rfl; have z3 := box_cell hb2 3 _ rfl; have z4 := box_cell hb2 4 _ rfl; have z5 := box_cell hb2 5 _ rfl; have z6 := box_cell hb2 6 _ rfl; have y0 := box_froz hb2; have Hb2 := Lib.hid hb2; clear hb2)
    have I2 := Lib.hid (HI.out.reader H2.out.1 H2.out.2 hle)
    have I3 := Lib.hid ((I2.out.setb HF.out 0 (.int .i64 18)).setb HF.out 2 (.int .i64 T))
    have HX := Lib.hid (HB _ I3.out (by rw [Hc.out]; simp))
    rw [Hc.out] at HX
    go_wp2_with (go_at_call 102; refine (HX.out).mono ?_; rintro e w3 ⟨rfl, H3⟩)
    exact ⟨rfl, rfl, Lib.hid (Below.trans (Mv.below HH.out ((((Mv.kept HK.out).trans (Mv.reader H2.out.1)).new (by omega) (chg_set _ _ 0 _)).new (by omega) (chg_set _ _ 2 _))) H3.out)⟩
  | ok us2 dp2 l2 =>
    clear hne
    have Hc := Lib.hid hc
    clear hc
    simp only [Res.bind]
    go_enter Tryz.func97, Tryz.ntmps97
    go_upto_region 10 with (first | (go_at_call 14; refine (HP.out).mono ?_; rintro e w1 ⟨rfl, H1⟩) | (go_at_call 47; refine (HT.out _).mono ?_; rintro e w' ⟨rfl, rfl⟩))
    obtain ⟨I, hb, F, K, s1, s2⟩ := unary_pre HH.out H1.out #[.int .i64 u.kind, .string ⟨u.text.toArray⟩, .int .i64 u.place] (nodeV 0 0 0 ⟨#[]⟩ (-1) (-1) u.place)
    have HI := Lib.hid I
    have HF := Lib.hid F
    have HK := Lib.hid K
    have Hb := Lib.hid hb
    clear I F K hb
    unfold nodeV at HI HK Hb
    have HN := Lib.hid (type_yes _ HI.out.rd HTn.out)
    generalize readT u.text = T at *
    go_upto_region 11 with (go_at_call 25; refine (HN.out).mono ?_; rintro e w2 ⟨rfl, H2⟩; have hb2 := H2.out.1.heap Hb.out HF.out.r; have z0 := box_cell hb2 0 _ rfl; have z1 := box_cell hb2 1 _ rfl; have z2 := box_cell hb2 2 _ rfl; have z3 := box_cell hb2 3 _ rfl; have z4 := box_cell hb2 4 _ rfl; have z5 := box_cell hb2 5 _ rfl; have z6 := box_cell hb2 6 _ rfl; have y0 := box_froz hb2; have Hb2 := Lib.hid hb2; clear hb2)
    have I2 := Lib.hid (HI.out.reader H2.out.1 H2.out.2 hle)
    have I3 := Lib.hid ((I2.out.setb HF.out 0 (.int .i64 18)).setb HF.out 2 (.int .i64 T))
    have HX := Lib.hid (HB _ I3.out (by rw [Hc.out]; simp))
    rw [Hc.out] at HX
    have hbx : Hid (((w2.setCell ⟨w1.heap.size + 1, 0, none⟩ (.int .i64 18)).setCell ⟨w1.heap.size + 1, 2, none⟩ (.int .i64 T)).heap[w1.heap.size + 1]? = some (.cells (nodeV 18 0 T ⟨#[]⟩ (-1) (-1) u.place) 152 (0, 0))) := Lib.hid (by
      rw [heap_setCell_same _ _ _ _ _ _ (heap_setCell_same _ _ _ _ _ _ Hb2.out)]; simp [nodeV])
    unfold nodeV at hbx
    go_upto_region 22 with (go_at_call 102; refine (HX.out).mono ?_; rintro e w3 ⟨rfl, H3⟩; obtain ⟨v3, m3, i3, t3, t3'⟩ := H3.out; have M3 := Lib.hid m3; have I4 := Lib.hid i3; have T3 := Lib.hid (And.intro t3 t3'); clear m3 i3 t3 t3'; have hb3 := HF.out.box M3.out hbx.out; have z0 := box_cell hb3 0 _ rfl; have z1 := box_cell hb3 1 _ rfl; have z2 := box_cell hb3 2 _ rfl; have z3 := box_cell hb3 3 _ rfl; have z4 := box_cell hb3 4 _ rfl; have z5 := box_cell hb3 5 _ rfl; have z6 := box_cell hb3 6 _ rfl; have y0 := box_froz hb3; have Hb3 := Lib.hid hb3; clear hb3)
    have HFn := Lib.hid (HF.out.mv M3.out (box_lt hbx.out))
    have I5 := Lib.hid (I4.out.setb HFn.out 4 (.int .i64 (l2.length - 1 : Nat)))
    have HA := Lib.hid (addExpr_any ⟨18, 0, T, [], (l2.length - 1 : Nat), -1, u.place⟩ 18 0 T (l2.length - 1 : Nat) (-1) u.place ⟨#[]⟩ _ I5.out.box I5.out.cell I5.out.ty.1 I5.out.own I5.out.size (by have := I5.out.sz; omega) rfl)
    go_wp2_with (go_at_call 99; refine (HA.out).mono ?_; rintro e w5 ⟨rfl, H5⟩)
    go_ret
    obtain ⟨t3, t3'⟩ := T3.out
    obtain ⟨v5, m5, i5⟩ := I5.out.add (by omega) H5.out
    exact ⟨by simp, Lib.hid ⟨v5, ((((((Mv.kept HK.out).trans (Mv.reader H2.out.1)).new (by omega) (chg_set _ _ 0 _)).new (by omega) (chg_set _ _ 2 _)).trans M3.out).new (by omega) (chg_set _ _ 4 _)).trans m5, i5, by simp; omega, by simp; omega⟩⟩
set_option maxRecDepth 100000 in
set_option maxHeartbeats 4000000 in
theorem unary_old {f : Nat} (HB : BracketSaid f) {B G r q o d : Nat} {cur : Array Value} {t : TypeId} {v : Value} {u : Tok} {us : List Tok} {dp : Option Nat} {l : List Ex} (w : World) (h : ExIn B G w r q o cur t v (u :: us) d dp l) (h2 : u.kind ≠ 2) (h1 : u.kind ≠ 1) (hu : u.text = [111, 108, 100]) (hne : unaryF (f + 1) (u :: us) d dp l ≠ .out) :
    Calls Tryz.prog 97 #[.pointer (some ⟨r, 0, none⟩), .pointer (some ⟨q, o, none⟩)] w (ExPost B G r q o cur t v w (u :: us) d l (unaryF (f + 1) (u :: us) d dp l)) := by
  have e : unaryF (f + 1) (u :: us) d dp l = (bracketF f [40] [41] us d dp l).bind fun us2 dp2 l2 => .ok us2 dp2 (l2 ++ [⟨4, 0, 0, [], (l2.length - 1 : Nat), -1, u.place⟩]) := by simp [unaryF, h1, h2, hu, readT]
  rw [e] at hne ⊢; clear e
  have HP := Lib.hid (peek_any w h.rd)
  have HH := Lib.hid h
  have hsz := h.sz
  simp only [List.length_cons] at hsz
  have hle : us.length ≤ (u :: us).length := by simp
  have hk2 : ((u.kind : Int) == 2) = false := by simp; omega
  have hk1 : ((u.kind : Int) == 1) = false := by simp; omega
  have hx0 : (u.text == [111, 108, 100]) = true := by rw [hu]; rfl
  have HT := Lib.hid (read_any u.text)
  rw [show readT u.text = 0 by rw [hu]; rfl] at HT
  clear h h1 h2 hu
  cases hc : bracketF f [40] [41] us d dp l with
  | out => rw [hc] at hne; exact absurd rfl hne
  | bad k =>
    clear hne
    have Hc := Lib.hid hc
    clear hc
    go_enter Tryz.func97, Tryz.ntmps97
    go_upto_region 13 with (first | (go_at_call 14; refine (HP.out).mono ?_; rintro e w1 ⟨rfl, H1⟩) | (go_at_call 47; refine (HT.out _).mono ?_; rintro e w' ⟨rfl, rfl⟩))
    obtain ⟨I, hb, F, K, s1, s2⟩ := unary_pre HH.out H1.out #[.int .i64 u.kind, .string ⟨u.text.toArray⟩, .int .i64 u.place] (nodeV 0 0 0 ⟨#[]⟩ (-1) (-1) u.place)
    have HI := Lib.hid I
    have HF := Lib.hid F
    have HK := Lib.hid K
    have Hb := Lib.hid hb
    clear I F K hb
    unfold nodeV at HI HK Hb
    have HN := Lib.hid (next_any _ HI.out.rd)
    go_upto_region 14 with (go_at_call 46; refine (HN.out).mono ?_; rintro e w2 ⟨rfl, H2⟩)
    have hbx := Lib.hid (H2.out.1.heap Hb.out HF.out.r)
    have I2 := Lib.hid (HI.out.reader H2.out.1 H2.out.2 hle)
    have HX := Lib.hid (HB _ I2.out (by rw [Hc.out]; simp))
    rw [Hc.out] at HX
    go_wp2_with (go_at_call 102; refine (HX.out).mono ?_; rintro e w3 ⟨rfl, H3⟩)
    exact ⟨rfl, rfl, Lib.hid (Below.trans (Mv.below HH.out ((Mv.kept HK.out).trans (Mv.reader H2.out.1))) H3.out)⟩
  | ok us2 dp2 l2 =>
    clear hne
    have Hc := Lib.hid hc
    clear hc
    simp only [Res.bind]
    go_enter Tryz.func97, Tryz.ntmps97
    go_upto_region 13 with (first | (go_at_call 14; refine (HP.out).mono ?_; rintro e w1 ⟨rfl, H1⟩) | (go_at_call 47; refine (HT.out _).mono ?_; rintro e w' ⟨rfl, rfl⟩))
    obtain ⟨I, hb, F, K, s1, s2⟩ := unary_pre HH.out H1.out #[.int .i64 u.kind, .string ⟨u.text.toArray⟩, .int .i64 u.place] (nodeV 0 0 0 ⟨#[]⟩ (-1) (-1) u.place)
    have HI := Lib.hid I
    have HF := Lib.hid F
    have HK := Lib.hid K
    have Hb := Lib.hid hb
    clear I F K hb
    unfold nodeV at HI HK Hb
    have HN := Lib.hid (next_any _ HI.out.rd)
    go_upto_region 14 with (go_at_call 46; refine (HN.out).mono ?_; rintro e w2 ⟨rfl, H2⟩)
    have hbx := Lib.hid (H2.out.1.heap Hb.out HF.out.r)
    have I2 := Lib.hid (HI.out.reader H2.out.1 H2.out.2 hle)
    have HX := Lib.hid (HB _ I2.out (by rw [Hc.out]; simp))
    rw [Hc.out] at HX
    go_upto_region 22 with (go_at_call 102; refine (HX.out).mono ?_; rintro e w3 ⟨rfl, H3⟩; obtain ⟨v3, m3, i3, t3, t3'⟩ := H3.out; have M3 := Lib.hid m3; have I4 := Lib.hid i3; have T3 := Lib.hid (And.intro t3 t3'); clear m3 i3 t3 t3'; have hb3 := HF.out.box M3.out hbx.out; have z0 := box_cell hb3 0 _ rfl; have z1 := box_cell hb3 1 _ rfl; have z2 := box_cell hb3 2 _ rfl; have z3 := box_cell hb3 3 _ rfl; have z4 := box_cell hb3 4 _ rfl; have z5 := box_cell hb3 5 _ rfl; have z6 := box_cell hb3 6 _ rfl; have y0 := box_froz hb3; have Hb3 := Lib.hid hb3; clear hb3)
    have HFn := Lib.hid (HF.out.mv M3.out (box_lt hbx.out))
    have I5 := Lib.hid ((I4.out.setb HFn.out 0 (.int .i64 4)).setb HFn.out 4 (.int .i64 (l2.length - 1 : Nat)))
    have HA := Lib.hid (addExpr_any ⟨4, 0, 0, [], (l2.length - 1 : Nat), -1, u.place⟩ 4 0 0 (l2.length - 1 : Nat) (-1) u.place ⟨#[]⟩ _ I5.out.box I5.out.cell I5.out.ty.1 I5.out.own I5.out.size (by have := I5.out.sz; omega) rfl)
    go_wp2_with (go_at_call 99; refine (HA.out).mono ?_; rintro e w5 ⟨rfl, H5⟩)
    go_ret
    obtain ⟨t3, t3'⟩ := T3.out
    obtain ⟨v5, m5, i5⟩ := I5.out.add (by omega) H5.out
    exact ⟨by simp, Lib.hid ⟨v5, (((((Mv.kept HK.out).trans (Mv.reader H2.out.1)).trans M3.out).new (by omega) (chg_set _ _ 0 _)).new (by omega) (chg_set _ _ 4 _)).trans m5, i5, by simp; omega, by simp; omega⟩⟩
set_option maxRecDepth 100000 in
set_option maxHeartbeats 4000000 in
theorem unary_result {f : Nat} {B G r q o d : Nat} {cur : Array Value} {t : TypeId} {v : Value} {u : Tok} {us : List Tok} {dp : Option Nat} {l : List Ex} (w : World) (h : ExIn B G w r q o cur t v (u :: us) d dp l) (h2 : u.kind ≠ 2) (h1 : u.kind ≠ 1) (hu : u.text = [114, 101, 115, 117, 108, 116]) :
    Calls Tryz.prog 97 #[.pointer (some ⟨r, 0, none⟩), .pointer (some ⟨q, o, none⟩)] w (ExPost B G r q o cur t v w (u :: us) d l (unaryF (f + 1) (u :: us) d dp l)) := by
  have e : unaryF (f + 1) (u :: us) d dp l = .ok us dp (l ++ [⟨5, 0, 0, [], -1, -1, u.place⟩]) := by simp [unaryF, h1, h2, hu, readT]
  rw [e]; clear e
  have HP := Lib.hid (peek_any w h.rd)
  have HH := Lib.hid h
  have hsz := h.sz
  simp only [List.length_cons] at hsz
  have hle : us.length ≤ (u :: us).length := by simp
  have hk2 : ((u.kind : Int) == 2) = false := by simp; omega
  have hk1 : ((u.kind : Int) == 1) = false := by simp; omega
  have hx0 : (u.text == [111, 108, 100]) = false := by rw [hu]; rfl
  have hx1 : (u.text == [114, 101, 115, 117, 108, 116]) = true := by rw [hu]; rfl
  have HT := Lib.hid (read_any u.text)
  rw [show readT u.text = 0 by rw [hu]; rfl] at HT
  clear h h1 h2 hu
  go_enter Tryz.func97, Tryz.ntmps97
  go_upto_region 16 with (first | (go_at_call 14; refine (HP.out).mono ?_; rintro e w1 ⟨rfl, H1⟩) | (go_at_call 47; refine (HT.out _).mono ?_; rintro e w' ⟨rfl, rfl⟩))
  obtain ⟨I, hb, F, K, s1, s2⟩ := unary_pre HH.out H1.out #[.int .i64 u.kind, .string ⟨u.text.toArray⟩, .int .i64 u.place] (nodeV 0 0 0 ⟨#[]⟩ (-1) (-1) u.place)
  have HI := Lib.hid I
  have HF := Lib.hid F
  have HK := Lib.hid K
  have Hb := Lib.hid hb
  clear I F K hb
  unfold nodeV at HI HK Hb
  have HN := Lib.hid (next_any _ HI.out.rd)
  go_upto_region 22 with (go_at_call 46; refine (HN.out).mono ?_; rintro e w2 ⟨rfl, H2⟩; have hb2 := H2.out.1.heap Hb.out HF.out.r; have z0 := box_cell hb2 0 _ rfl; have z1 := box_cell hb2 1 _ rfl; have z2 := box_cell hb2 2 _ rfl; have z3 := box_cell hb2 3 _ rfl; have z4 := box_cell hb2 4 _ rfl; have z5 := box_cell hb2 5 _ rfl; have z6 := box_cell hb2 6 _ rfl; have y0 := box_froz hb2; have Hb2 := Lib.hid hb2; clear hb2)
  have I2 := Lib.hid (HI.out.reader H2.out.1 H2.out.2 hle)
  have I5 := Lib.hid (I2.out.setb HF.out 0 (.int .i64 5))
  have HA := Lib.hid (addExpr_any ⟨5, 0, 0, [], -1, -1, u.place⟩ 5 0 0 (-1) (-1) u.place ⟨#[]⟩ _ I5.out.box I5.out.cell I5.out.ty.1 I5.out.own I5.out.size (by omega) rfl)
  go_wp2_with (go_at_call 99; refine (HA.out).mono ?_; rintro e w5 ⟨rfl, H5⟩)
  go_ret
  obtain ⟨v5, m5, i5⟩ := I5.out.add (by omega) H5.out
  exact ⟨by simp, Lib.hid ⟨v5, (((Mv.kept HK.out).trans (Mv.reader H2.out.1)).new (by omega) (chg_set _ _ 0 _)).trans m5, i5, by simp; omega, by simp⟩⟩
set_option maxRecDepth 100000 in
set_option maxHeartbeats 4000000 in
theorem unary_neg {f : Nat} (HS : SignedSaid f) {B G r q o d : Nat} {cur : Array Value} {t : TypeId} {v : Value} {u : Tok} {us : List Tok} {dp : Option Nat} {l : List Ex} (w : World) (h : ExIn B G w r q o cur t v (u :: us) d dp l) (h2 : u.kind ≠ 2) (h1 : u.kind ≠ 1) (hu : u.text = [45]) (hne : unaryF (f + 1) (u :: us) d dp l ≠ .out) :
    Calls Tryz.prog 97 #[.pointer (some ⟨r, 0, none⟩), .pointer (some ⟨q, o, none⟩)] w (ExPost B G r q o cur t v w (u :: us) d l (unaryF (f + 1) (u :: us) d dp l)) := by
  have e : unaryF (f + 1) (u :: us) d dp l = (signedF f u us d dp l).bind fun us2 dp2 l2 => .ok us2 dp2 (l2 ++ [⟨6, 0, 0, [], (l2.length - 1 : Nat), -1, u.place⟩]) := by simp [unaryF, h1, h2, hu, readT]
  rw [e] at hne ⊢; clear e
  have HP := Lib.hid (peek_any w h.rd)
  have HH := Lib.hid h
  have hsz := h.sz
  simp only [List.length_cons] at hsz
  have hle : us.length ≤ (u :: us).length := by simp
  have hk2 : ((u.kind : Int) == 2) = false := by simp; omega
  have hk1 : ((u.kind : Int) == 1) = false := by simp; omega
  have hx0 : (u.text == [111, 108, 100]) = false := by rw [hu]; rfl
  have hx1 : (u.text == [114, 101, 115, 117, 108, 116]) = false := by rw [hu]; rfl
  have hx2 : (u.text == [45]) = true := by rw [hu]; rfl
  have HT := Lib.hid (read_any u.text)
  rw [show readT u.text = 0 by rw [hu]; rfl] at HT
  clear h h1 h2 hu
  cases hc : signedF f u us d dp l with
  | out => rw [hc] at hne; exact absurd rfl hne
  | bad k =>
    clear hne
    have Hc := Lib.hid hc
    clear hc
    go_enter Tryz.func97, Tryz.ntmps97
    go_upto_region 19 with (first | (go_at_call 14; refine (HP.out).mono ?_; rintro e w1 ⟨rfl, H1⟩) | (go_at_call 47; refine (HT.out _).mono ?_; rintro e w' ⟨rfl, rfl⟩))
    obtain ⟨I, hb, F, K, s1, s2⟩ := unary_pre HH.out H1.out #[.int .i64 u.kind, .string ⟨u.text.toArray⟩, .int .i64 u.place] (nodeV 0 0 0 ⟨#[]⟩ (-1) (-1) u.place)
    have HI := Lib.hid I
    have HF := Lib.hid F
    have HK := Lib.hid K
    have Hb := Lib.hid hb
    clear I F K hb
    unfold nodeV at HI HK Hb
    have hbx := Lib.hid Hb.out
    have HX := Lib.hid (HS _ HI.out (by rw [Hc.out]; simp))
    rw [Hc.out] at HX
    go_wp2_with (go_at_call 103; refine (HX.out).mono ?_; rintro e w3 ⟨rfl, H3⟩)
    exact ⟨rfl, rfl, Lib.hid (Below.trans (Mv.below HH.out (Mv.kept HK.out)) H3.out)⟩
  | ok us2 dp2 l2 =>
    clear hne
    have Hc := Lib.hid hc
    clear hc
    simp only [Res.bind]
    go_enter Tryz.func97, Tryz.ntmps97
    go_upto_region 19 with (first | (go_at_call 14; refine (HP.out).mono ?_; rintro e w1 ⟨rfl, H1⟩) | (go_at_call 47; refine (HT.out _).mono ?_; rintro e w' ⟨rfl, rfl⟩))
    obtain ⟨I, hb, F, K, s1, s2⟩ := unary_pre HH.out H1.out #[.int .i64 u.kind, .string ⟨u.text.toArray⟩, .int .i64 u.place] (nodeV 0 0 0 ⟨#[]⟩ (-1) (-1) u.place)
    have HI := Lib.hid I
    have HF := Lib.hid F
    have HK := Lib.hid K
    have Hb := Lib.hid hb
    clear I F K hb
    unfold nodeV at HI HK Hb
    have hbx := Lib.hid Hb.out
    have HX := Lib.hid (HS _ HI.out (by rw [Hc.out]; simp))
    rw [Hc.out] at HX
    go_upto_region 22 with (go_at_call 103; refine (HX.out).mono ?_; rintro e w3 ⟨rfl, H3⟩; obtain ⟨v3, m3, i3, t3, t3'⟩ := H3.out; have M3 := Lib.hid m3; have I4 := Lib.hid i3; have T3 := Lib.hid (And.intro t3 t3'); clear m3 i3 t3 t3'; have hb3 := HF.out.box M3.out hbx.out; have z0 := box_cell hb3 0 _ rfl; have z1 := box_cell hb3 1 _ rfl; have z2 := box_cell hb3 2 _ rfl; have z3 := box_cell hb3 3 _ rfl; have z4 := box_cell hb3 4 _ rfl; have z5 := box_cell hb3 5 _ rfl; have z6 := box_cell hb3 6 _ rfl; have y0 := box_froz hb3; have Hb3 := Lib.hid hb3; clear hb3)
    have HFn := Lib.hid (HF.out.mv M3.out (box_lt hbx.out))
    have I5 := Lib.hid ((I4.out.setb HFn.out 0 (.int .i64 6)).setb HFn.out 4 (.int .i64 (l2.length - 1 : Nat)))
    have HA := Lib.hid (addExpr_any ⟨6, 0, 0, [], (l2.length - 1 : Nat), -1, u.place⟩ 6 0 0 (l2.length - 1 : Nat) (-1) u.place ⟨#[]⟩ _ I5.out.box I5.out.cell I5.out.ty.1 I5.out.own I5.out.size (by have := I5.out.sz; omega) rfl)
    go_wp2_with (go_at_call 99; refine (HA.out).mono ?_; rintro e w5 ⟨rfl, H5⟩)
    go_ret
    obtain ⟨t3, t3'⟩ := T3.out
    obtain ⟨v5, m5, i5⟩ := I5.out.add (by omega) H5.out
    exact ⟨by simp, Lib.hid ⟨v5, ((((Mv.kept HK.out).trans M3.out).new (by omega) (chg_set _ _ 0 _)).new (by omega) (chg_set _ _ 4 _)).trans m5, i5, by simp; omega, by simp; omega⟩⟩
set_option maxRecDepth 100000 in
set_option maxHeartbeats 4000000 in
theorem unary_com {f : Nat} (HS : SignedSaid f) {B G r q o d : Nat} {cur : Array Value} {t : TypeId} {v : Value} {u : Tok} {us : List Tok} {dp : Option Nat} {l : List Ex} (w : World) (h : ExIn B G w r q o cur t v (u :: us) d dp l) (h2 : u.kind ≠ 2) (h1 : u.kind ≠ 1) (hu : u.text = [126]) (hne : unaryF (f + 1) (u :: us) d dp l ≠ .out) :
    Calls Tryz.prog 97 #[.pointer (some ⟨r, 0, none⟩), .pointer (some ⟨q, o, none⟩)] w (ExPost B G r q o cur t v w (u :: us) d l (unaryF (f + 1) (u :: us) d dp l)) := by
  have e : unaryF (f + 1) (u :: us) d dp l = (signedF f u us d dp l).bind fun us2 dp2 l2 => .ok us2 dp2 (l2 ++ [⟨7, 0, 0, [], (l2.length - 1 : Nat), -1, u.place⟩]) := by simp [unaryF, h1, h2, hu, readT]
  rw [e] at hne ⊢; clear e
  have HP := Lib.hid (peek_any w h.rd)
  have HH := Lib.hid h
  have hsz := h.sz
  simp only [List.length_cons] at hsz
  have hle : us.length ≤ (u :: us).length := by simp
  have hk2 : ((u.kind : Int) == 2) = false := by simp; omega
  have hk1 : ((u.kind : Int) == 1) = false := by simp; omega
  have hx0 : (u.text == [111, 108, 100]) = false := by rw [hu]; rfl
  have hx1 : (u.text == [114, 101, 115, 117, 108, 116]) = false := by rw [hu]; rfl
  have hx2 : (u.text == [45]) = false := by rw [hu]; rfl
  have hx3 : (u.text == [126]) = true := by rw [hu]; rfl
  have HT := Lib.hid (read_any u.text)
  rw [show readT u.text = 0 by rw [hu]; rfl] at HT
  clear h h1 h2 hu
  cases hc : signedF f u us d dp l with
  | out => rw [hc] at hne; exact absurd rfl hne
  | bad k =>
    clear hne
    have Hc := Lib.hid hc
    clear hc
    go_enter Tryz.func97, Tryz.ntmps97
    go_upto_region 21 with (first | (go_at_call 14; refine (HP.out).mono ?_; rintro e w1 ⟨rfl, H1⟩) | (go_at_call 47; refine (HT.out _).mono ?_; rintro e w' ⟨rfl, rfl⟩))
    obtain ⟨I, hb, F, K, s1, s2⟩ := unary_pre HH.out H1.out #[.int .i64 u.kind, .string ⟨u.text.toArray⟩, .int .i64 u.place] (nodeV 0 0 0 ⟨#[]⟩ (-1) (-1) u.place)
    have HI := Lib.hid I
    have HF := Lib.hid F
    have HK := Lib.hid K
    have Hb := Lib.hid hb
    clear I F K hb
    unfold nodeV at HI HK Hb
    have hbx := Lib.hid Hb.out
    have HX := Lib.hid (HS _ HI.out (by rw [Hc.out]; simp))
    rw [Hc.out] at HX
    go_wp2_with (go_at_call 103; refine (HX.out).mono ?_; rintro e w3 ⟨rfl, H3⟩)
    exact ⟨rfl, rfl, Lib.hid (Below.trans (Mv.below HH.out (Mv.kept HK.out)) H3.out)⟩
  | ok us2 dp2 l2 =>
    clear hne
    have Hc := Lib.hid hc
    clear hc
    simp only [Res.bind]
    go_enter Tryz.func97, Tryz.ntmps97
    go_upto_region 21 with (first | (go_at_call 14; refine (HP.out).mono ?_; rintro e w1 ⟨rfl, H1⟩) | (go_at_call 47; refine (HT.out _).mono ?_; rintro e w' ⟨rfl, rfl⟩))
    obtain ⟨I, hb, F, K, s1, s2⟩ := unary_pre HH.out H1.out #[.int .i64 u.kind, .string ⟨u.text.toArray⟩, .int .i64 u.place] (nodeV 0 0 0 ⟨#[]⟩ (-1) (-1) u.place)
    have HI := Lib.hid I
    have HF := Lib.hid F
    have HK := Lib.hid K
    have Hb := Lib.hid hb
    clear I F K hb
    unfold nodeV at HI HK Hb
    have hbx := Lib.hid Hb.out
    have HX := Lib.hid (HS _ HI.out (by rw [Hc.out]; simp))
    rw [Hc.out] at HX
    go_upto_region 22 with (go_at_call 103; refine (HX.out).mono ?_; rintro e w3 ⟨rfl, H3⟩; obtain ⟨v3, m3, i3, t3, t3'⟩ := H3.out; have M3 := Lib.hid m3; have I4 := Lib.hid i3; have T3 := Lib.hid (And.intro t3 t3'); clear m3 i3 t3 t3'; have hb3 := HF.out.box M3.out hbx.out; have z0 := box_cell hb3 0 _ rfl; have z1 := box_cell hb3 1 _ rfl; have z2 := box_cell hb3 2 _ rfl; have z3 := box_cell hb3 3 _ rfl; have z4 := box_cell hb3 4 _ rfl; have z5 := box_cell hb3 5 _ rfl; have z6 := box_cell hb3 6 _ rfl; have y0 := box_froz hb3; have Hb3 := Lib.hid hb3; clear hb3)
    have HFn := Lib.hid (HF.out.mv M3.out (box_lt hbx.out))
    have I5 := Lib.hid ((I4.out.setb HFn.out 0 (.int .i64 7)).setb HFn.out 4 (.int .i64 (l2.length - 1 : Nat)))
    have HA := Lib.hid (addExpr_any ⟨7, 0, 0, [], (l2.length - 1 : Nat), -1, u.place⟩ 7 0 0 (l2.length - 1 : Nat) (-1) u.place ⟨#[]⟩ _ I5.out.box I5.out.cell I5.out.ty.1 I5.out.own I5.out.size (by have := I5.out.sz; omega) rfl)
    go_wp2_with (go_at_call 99; refine (HA.out).mono ?_; rintro e w5 ⟨rfl, H5⟩)
    go_ret
    obtain ⟨t3, t3'⟩ := T3.out
    obtain ⟨v5, m5, i5⟩ := I5.out.add (by omega) H5.out
    exact ⟨by simp, Lib.hid ⟨v5, ((((Mv.kept HK.out).trans M3.out).new (by omega) (chg_set _ _ 0 _)).new (by omega) (chg_set _ _ 4 _)).trans m5, i5, by simp; omega, by simp; omega⟩⟩
set_option maxRecDepth 100000 in
set_option maxHeartbeats 4000000 in
theorem unary_other {f : Nat} (HB : BracketSaid f) {B G r q o d : Nat} {cur : Array Value} {t : TypeId} {v : Value} {u : Tok} {us : List Tok} {dp : Option Nat} {l : List Ex} (w : World) (h : ExIn B G w r q o cur t v (u :: us) d dp l) (h2 : u.kind ≠ 2) (h1 : u.kind ≠ 1) (hT : readT u.text = 0) (h3 : u.text ≠ [111, 108, 100]) (h4 : u.text ≠ [114, 101, 115, 117, 108, 116]) (h5 : u.text ≠ [45]) (h6 : u.text ≠ [126]) (hne : unaryF (f + 1) (u :: us) d dp l ≠ .out) :
    Calls Tryz.prog 97 #[.pointer (some ⟨r, 0, none⟩), .pointer (some ⟨q, o, none⟩)] w (ExPost B G r q o cur t v w (u :: us) d l (unaryF (f + 1) (u :: us) d dp l)) := by
  have e : unaryF (f + 1) (u :: us) d dp l = bracketF f [40] [41] (u :: us) d dp l := by simp [unaryF, h1, h2, hT, h3, h4, h5, h6]
  rw [e] at hne ⊢; clear e
  have HP := Lib.hid (peek_any w h.rd)
  have HH := Lib.hid h
  have hsz := h.sz
  simp only [List.length_cons] at hsz
  have hle : us.length ≤ (u :: us).length := by simp
  have hk2 : ((u.kind : Int) == 2) = false := by simp; omega
  have hk1 : ((u.kind : Int) == 1) = false := by simp; omega
  have hx0 : (u.text == [111, 108, 100]) = false := by simpa using h3
  have hx1 : (u.text == [114, 101, 115, 117, 108, 116]) = false := by simpa using h4
  have hx2 : (u.text == [45]) = false := by simpa using h5
  have hx3 : (u.text == [126]) = false := by simpa using h6
  have HT := Lib.hid (read_any u.text)
  rw [hT] at HT
  clear h h1 h2 hT h3 h4 h5 h6
  cases hc : bracketF f [40] [41] (u :: us) d dp l with
  | out => exact absurd hc hne
  | bad k =>
    clear hne
    have Hc := Lib.hid hc
    clear hc
    go_enter Tryz.func97, Tryz.ntmps97
    go_upto_region 3 with (first | (go_at_call 14; refine (HP.out).mono ?_; rintro e w1 ⟨rfl, H1⟩) | (go_at_call 47; refine (HT.out _).mono ?_; rintro e w' ⟨rfl, rfl⟩))
    obtain ⟨I, hb, F, K, s1, s2⟩ := unary_pre HH.out H1.out #[.int .i64 u.kind, .string ⟨u.text.toArray⟩, .int .i64 u.place] (nodeV 0 0 0 ⟨#[]⟩ (-1) (-1) u.place)
    have HI := Lib.hid I
    have HF := Lib.hid F
    have HK := Lib.hid K
    have Hb := Lib.hid hb
    clear I F K hb
    unfold nodeV at HI HK Hb
    have HX := Lib.hid (HB _ HI.out (by rw [Hc.out]; simp))
    rw [Hc.out] at HX
    go_wp2_with (go_at_call 102; refine (HX.out).mono ?_; rintro e w3 ⟨rfl, H3⟩)
    exact ⟨rfl, rfl, Lib.hid (Below.trans (Mv.below HH.out (Mv.kept HK.out)) H3.out)⟩
  | ok us2 dp2 l2 =>
    clear hne
    have Hc := Lib.hid hc
    clear hc
    go_enter Tryz.func97, Tryz.ntmps97
    go_upto_region 3 with (first | (go_at_call 14; refine (HP.out).mono ?_; rintro e w1 ⟨rfl, H1⟩) | (go_at_call 47; refine (HT.out _).mono ?_; rintro e w' ⟨rfl, rfl⟩))
    obtain ⟨I, hb, F, K, s1, s2⟩ := unary_pre HH.out H1.out #[.int .i64 u.kind, .string ⟨u.text.toArray⟩, .int .i64 u.place] (nodeV 0 0 0 ⟨#[]⟩ (-1) (-1) u.place)
    have HI := Lib.hid I
    have HF := Lib.hid F
    have HK := Lib.hid K
    have Hb := Lib.hid hb
    clear I F K hb
    unfold nodeV at HI HK Hb
    have HX := Lib.hid (HB _ HI.out (by rw [Hc.out]; simp))
    rw [Hc.out] at HX
    go_wp2_with (go_at_call 102; refine (HX.out).mono ?_; rintro e w3 ⟨rfl, H3⟩)
    go_ret
    obtain ⟨v3, m3, i3, t3, t3'⟩ := H3.out
    exact ⟨rfl, Lib.hid ⟨v3, (Mv.kept HK.out).trans m3, i3, t3, t3'⟩⟩
end Go.Proofs.YtoafcpbpnkfhoaaGreatDoor.Prs
