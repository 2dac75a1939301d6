/-
  Package watch: set (a list of numbers as a set), slices.Equal at []int, differs (are two memories' blocks of one Id unlike?).
  Package watch: slices.Equal at []int, differs (are two memories' blocks of one Id unlike?).
  Package watch: Changed (the first of ids, none of may, whose block is another one now).
  The document's answer for package watch: Changed.
  Statements of layer 8: Names (the binds of a program's names), nodes (a text's nodes), where the text can be read.
  Statements of layer 8: Both (two memories with the same values): what its rows are, as a plain function. No program's step is named here.
  Statements of layer 8: Both: a memory with these values, here and as it should be (bothF).
  Statements of layer 9: awake; two memories that are made and cut.
-/
import Derived.Test.YthjnkjekidagiaaMemTop
import Derived.Maps.OwnSet
import Derived.Deep.RegionHeld3
import Derived.Deep.CutBlock
import Derived.Deep.CutRange
import Derived.Deep.LoopGhost
import Derived.Test.YthjnkjekidagiaaEvJ
import Derived.Test.YthjnkjekidagiaaRrdK
import Derived.Test.YthjnkjekidagiaaMemT
namespace Go.Proofs.Ythjnkjekidagiaa.Wch
open Go.RowKit Go.Maps
open Mem

/-- A list of numbers in memory. -/
def IntsAt (w : World) (v : Value) (l : List Int) : Prop :=
  (v = .slice none 0 0 ∧ l = []) ∨ ∃ (x : Addr) (c : Nat), v = .slice (some x) l.length c ∧ l.length ≤ c ∧ c ≤ maxLen ∧ ∀ j (h : j < l.length), (x.add j).block < w.heap.size ∧ w.cell? (x.add j) = some (.int .i64 l[j]) ∧ (Lit.int .i64 l[j]).wf = true
theorem IntsAt.form {w : World} {v : Value} {l : List Int} (h : IntsAt w v l) : ∃ a c, v = .slice a l.length c := by
  rcases h with ⟨h1, h2⟩ | ⟨x, c, h1, _⟩
  · exact ⟨none, 0, by rw [h1, h2]; rfl⟩
  · exact ⟨_, _, h1⟩
theorem IntsAt.kept {w w' : World} {v : Value} {l : List Int} (h : IntsAt w v l) (hk : Kept w w') : IntsAt w' v l := by
  rcases h with h | ⟨x, c, h1, h2, h3, h4⟩
  · exact .inl h
  · exact .inr ⟨x, c, h1, h2, h3, fun j hj => ⟨Nat.lt_of_lt_of_le (h4 j hj).1 hk.size, (World.cell?_of_block (a := x.add j) (hk.block (x.add j).block (h4 j hj).1)).trans (h4 j hj).2.1, (h4 j hj).2.2⟩⟩
theorem IntsAt.at {w : World} {a : Option Addr} {c n : Nat} {l : List Int} (h : IntsAt w (.slice a n c) l) {j : Nat} (hj : j < l.length) : ∃ x, a = some x ∧ l.length ≤ c ∧ c ≤ maxLen ∧ w.cell? (x.add j) = some (.int .i64 l[j]) ∧ (Lit.int .i64 l[j]).wf = true := by
  rcases h with ⟨h1, h2⟩ | ⟨x, c', h1, h2, h3, h5⟩
  · subst h2; simp at hj
  · injection h1 with e1 e2 e3
    subst e1 e3
    exact ⟨x, rfl, h2, h3, (h5 j hj).2⟩
theorem IntsAt.len {w : World} {a : Option Addr} {c n : Nat} {l : List Int} (h : IntsAt w (.slice a n c) l) : n = l.length := by
  rcases h with ⟨h1, h2⟩ | ⟨x, c', h1, _⟩
  · injection h1 with _ h1; rw [h2, h1]; rfl
  · injection h1
theorem ints_nil (w : World) : IntsAt w (.slice none 0 0) [] := .inl ⟨rfl, rfl⟩

theorem key_law : Keyed Try.prog 3 := int_keyed Try.underlying3
theorem unit_zero (w : World) : (zeroValue 67).run Try.prog w = .ok (.agg #[]) w := by kernel_rfl
theorem run_makeMap_hint (n : Int) (w : World) : (Instr.makeMap 65 (some (.int .i64 n))).run Try.prog w = .ok (.map (some w.heap.size)) (w.alloc (.map #[] 0)) := by
  simp [Instr.makeMap, run_underlying Try.underlying65, asInt, asIntOf, Result.andThen]
/-- The set of a list's first k numbers. -/
def setD (l : List Int) (k : Nat) : DataW Unit := setOf (.agg []) ((l.take k).map (Lit.int .i64))
theorem any_int (x : Int) : ∀ l : List Int, l.any ((fun y : Lit => y.sameKey (.int .i64 x)) ∘ Lit.int .i64) = l.contains x
  | [] => rfl
  | a :: r => by
    rw [List.any_cons, List.contains_cons, any_int x r]
    congr 1
    show decide (IntKind.i64 = IntKind.i64 ∧ a = x) = (x == a)
    by_cases e : a = x
    · subst e; simp
    · have e' : ¬ x = a := fun h => e h.symm
      simp [e, e']
theorem has_setD (l : List Int) (k : Nat) (x : Int) : Maps.has (setD l k) (.int .i64 x) = (l.take k).contains x := by
  unfold setD
  rw [has_setOf _ _ _ (fun y hy => by obtain ⟨_, _, rfl⟩ := List.mem_map.1 hy; trivial), List.any_map]
  exact any_int x _
theorem setD_zero (l : List Int) : setD l 0 = .map [] := rfl
theorem setD_succ (l : List Int) {k : Nat} (hk : k < l.length) : setD l (k + 1) = (setD l k).put (.int .i64 l[k]) (.agg []) := by
  unfold setD
  rw [List.take_succ_eq_append_getElem hk, List.map_append, List.map_singleton, setOf_snoc]
/-- The set of a list, in memory. -/
def SetAt (w : World) (b : Nat) (l : List Int) : Prop := w.ownsMap Try.prog 3 unitElem b l.length (setD l l.length)
theorem SetAt.kept {w w' : World} {b : Nat} {l : List Int} (h : SetAt w b l) (hk : Kept w w') (hb : b < w.heap.size) : SetAt w' b l := by
  obtain ⟨es, clock, h1, h2⟩ := h
  exact ⟨es, clock, (hk.block b hb).trans h1, h2⟩

set_option maxRecDepth 100000 in
set_option maxHeartbeats 4000000 in
theorem set_any' (w : World) (v : Value) (l : List Int) (hv : IntsAt w v l) : Calls Try.prog 23 #[v] w fun e w' => ∃ b, e = .returned (.map (some b)) ∧ Hid (Kept w w' ∧ w.heap.size ≤ b ∧ b < w'.heap.size ∧ SetAt w' b l) := by
  have hmm := run_makeMap_hint
  obtain ⟨a, c, rfl⟩ := hv.form
  have HV := Lib.hid hv
  have hlm : l.length ≤ maxLen := by
    rcases hv with ⟨_, h2⟩ | ⟨x, c, _, h2, h3, _⟩
    · subst h2; simp [maxLen]
    · omega
  have hlm' : l.length ≤ 9223372036854775807 := by simp only [maxLen] at hlm; omega
  clear hv
  go_enter Try.func23, Try.ntmps23
  go_wp2
  go_loopw [11] (fun i wr => ∃ k : Nat, k ≤ l.length ∧ i = .int .i64 k ∧ Hid (wr.ownsMap Try.prog 3 unitElem w.heap.size k (setD l k) ∧ Kept w wr ∧ w.heap.size < wr.heap.size)) (fun i _ => l.length - (intOf i).toNat)
  case atStart => exact ⟨0, Nat.zero_le _, rfl, Lib.hid ⟨by rw [setD_zero]; exact World.ownsMap_made _ _ _ _, (Kept.refl w).alloc _, by simp⟩⟩
  case round =>
    obtain ⟨k, hk, rfl, HO⟩ := hrel
    by_cases hlt : k < l.length
    case neg =>
      obtain rfl : k = l.length := by omega
      go_wp2
      go_ret
      exact ⟨_, rfl, Lib.hid ⟨HO.out.2.1, Nat.le_refl _, HO.out.2.2, HO.out.1⟩⟩
    obtain ⟨x, rfl, b1, b2, c1, wf⟩ := (HV.out.kept HO.out.2.1).at hlt
    have hkey : keyOf Try.prog 3 (.int .i64 l[k]) = some (.int .i64 l[k]) := keyOf_int_mk Try.underlying3 wf
    have hkm : k < maxLen := by omega
    have hown := HO.out.1
    have HS := Lib.hid (setD_succ l hlt)
    have HK := Lib.hid HO.out.2
    clear HO HV wf hlm
    generalize l[k] = n at *
    simp only [maxLen] at b2
    go_wp2_with (first
      | (at_mapUpdate; refine wpList_mapUpdate_own _ rfl _ _ _ 65 rfl 3 67 key_law Try.underlying65 (unitElem (H := Unit)) w.heap.size k _ rfl hown hkm _ _ _ rfl rfl hkey _ [] unitElem_mk ?_; intro w1 hown1 hgrow1)
      | go_in)
    have s1 := hgrow1.size
    refine ⟨⟨k + 1, by omega, by simp, Lib.hid ⟨by rw [HS.out]; exact hown1, Below.grown HK.out.1 hgrow1 (by have := HK.out.1.size; omega) (fun j hj => by cases hj; exact Nat.le_refl _), by have := HK.out.2; omega⟩⟩, by simp [intOf]; omega⟩
end Go.Proofs.Ythjnkjekidagiaa.Wch
namespace Go.Proofs.Ythjnkjekidagiaa.Wch
open Go.RowKit
open Mem

set_option maxHeartbeats 2000000 in
theorem equal_any (w : World) {B C : Nat} {v u : Value} {l m : List Int} (h1 : w.ownsRow B 3 1 v l.length (ints l)) (h2 : w.ownsRow C 3 1 u m.length (ints m)) :
    Calls Try.prog 38 #[v, u] w fun e w' => e = .returned (.bool (l == m)) ∧ ∃ n, w' = w.drewN n := by
  by_cases hl : l.length = m.length
  case neg =>
    have e0 : (l == m) = false := by rw [beq_eq_false_iff_ne]; intro e; exact hl (by rw [e])
    rw [e0]
    obtain ⟨a, c, rfl⟩ : ∃ a c, v = .slice a l.length c := by
      rcases row_cells h1 with ⟨rfl, rfl⟩ | ⟨g, c, rfl, _⟩
      · exact ⟨_, _, rfl⟩
      · exact ⟨_, _, rfl⟩
    obtain ⟨b, d, rfl⟩ : ∃ a c, u = .slice a m.length c := by
      rcases row_cells h2 with ⟨rfl, rfl⟩ | ⟨g, c, rfl, _⟩
      · exact ⟨_, _, rfl⟩
      · exact ⟨_, _, rfl⟩
    have hl' : ((l.length : Int) != (m.length : Int)) = true := by rw [bne_iff_ne]; omega
    clear h1 h2 e0
    go_enter Try.func38, Try.ntmps38
    go_wp2
    go_ret
    exact ⟨rfl, 0, rfl⟩
  obtain ⟨a, c, rfl, hv⟩ : ∃ a c, v = .slice a l.length c ∧ ∀ j (hj : j < l.length), ∃ g, a = some ⟨g, 0, none⟩ ∧ l.length ≤ c ∧ c ≤ maxLen ∧ w.cell? ⟨g, j, none⟩ = some (.int .i64 l[j]) := by
    rcases row_cells h1 with ⟨rfl, rfl⟩ | ⟨g, c, rfl, h3, h4, h5⟩
    · exact ⟨_, _, rfl, fun j hj => absurd hj (by simp)⟩
    · exact ⟨_, _, rfl, fun j hj => ⟨g, rfl, h3, h4, h5 j hj⟩⟩
  obtain ⟨b, d, rfl, hu⟩ : ∃ a c, u = .slice a m.length c ∧ ∀ j (hj : j < m.length), ∃ g, a = some ⟨g, 0, none⟩ ∧ m.length ≤ c ∧ c ≤ maxLen ∧ w.cell? ⟨g, j, none⟩ = some (.int .i64 m[j]) := by
    rcases row_cells h2 with ⟨rfl, rfl⟩ | ⟨g, c, rfl, h3, h4, h5⟩
    · exact ⟨_, _, rfl, fun j hj => absurd hj (by simp)⟩
    · exact ⟨_, _, rfl, fun j hj => ⟨g, rfl, h3, h4, h5 j hj⟩⟩
  have Hv := Lib.hid hv
  have Hu := Lib.hid hu
  have hl' : ((l.length : Int) != (m.length : Int)) = false := by simp [hl]
  clear h1 h2 hv hu
  go_enter Try.func38, Try.ntmps38
  go_wp2
  go_loopw [13] (fun i wx => ∃ k n : Nat, k ≤ l.length ∧ i = .int .i64 k ∧ wx = w.drewN n ∧ Hid (l.take k = m.take k)) (fun i _ => l.length - (intOf i).toNat)
  case atStart => exact ⟨0, 0, by omega, rfl, rfl, Lib.hid rfl⟩
  case round =>
    obtain ⟨k, n, hk, rfl, rfl, Ht⟩ := hrel
    by_cases hk' : k < l.length
    case neg =>
      have e0 : (l == m) = true := by
        have := Ht.out
        rw [List.take_of_length_le (by omega), List.take_of_length_le (by omega)] at this
        rw [beq_iff_eq]; exact this
      go_wp2
      go_ret
      exact ⟨ret_bool e0.symm, n, rfl⟩
    have hkm : k < m.length := by omega
    obtain ⟨g, rfl, b1, b2, c1⟩ := Hv.out k hk'
    obtain ⟨g', rfl, b3, b4, c2⟩ := Hu.out k hkm
    simp only [maxLen] at b2 b4
    clear Hv Hu
    by_cases he : l[k] = m[k]
    · have He : Hid (l.take (k + 1) = m.take (k + 1)) := Lib.hid (take_succ hk' hkm Ht.out he)
      rw [← he] at c2
      generalize l[k] = x at c1 c2
      clear he
      go_wp2
      go_quiet (fail)
      go_wp2
      exact ⟨⟨k + 1, n + nq, by omega, by simp, rfl, He⟩, by simp [intOf]; omega⟩
    · have e0 := take_ne hk' hkm he
      have he' : (l[k] != m[k]) = true := by rw [bne_iff_ne]; exact he
      generalize l[k] = x at c1 he'
      generalize m[k] = y at c2 he'
      clear he
      go_wp2
      go_quiet (fail)
      go_wp2
      go_ret
      exact ⟨ret_bool e0.symm, n + nq, by rw [World.drewN_drewN]⟩

/-- Are two memories' blocks of one Id unlike? -/
def difR (T U : List Row) (id : Int) : Bool := blkR T id != blkR U id
theorem row_form {w : World} {B : Nat} {v : Value} {l : List Int} (h : w.ownsRow B 3 1 v l.length (ints l)) : ∃ a c, v = .slice a l.length c := by
  rcases row_cells h with ⟨rfl, rfl⟩ | ⟨g, c, rfl, _⟩
  · exact ⟨_, _, rfl⟩
  · exact ⟨_, _, rfl⟩
theorem own_kept {w w' : World} {B : Nat} {v : Value} {l : List Int} (h : w.ownsRow B 3 1 v l.length (ints l)) (hk : Kept w w') : w'.ownsRow B 3 1 v l.length (ints l) :=
  own_chg (S := fun _ => False) h (Chg.of_kept hk) (fun _ _ => id)
theorem box2 {w w' : World} {a b : Value} {t : TypeId} (hk : Kept (w.alloc (.cells #[a, b] t)) w') : w'.cell? ⟨w.heap.size, 0, none⟩ = some a ∧ w'.cell? ⟨w.heap.size, 1, none⟩ = some b := by
  have h := Kept.heap hk (heap_alloc_new w (.cells #[a, b] t))
  exact ⟨box_cell h 0 _ rfl, box_cell h 1 _ rfl⟩
set_option maxRecDepth 100000 in
set_option maxHeartbeats 4000000 in
theorem differs_any {B C : Nat} {w : World} {p q : Nat} {v u : Value} {L K : List Bk} {T U : List Row} (h : MemAt B 64 w p v L) (hT : L.map tv = T) (hS : Small T) (h' : MemAt C 64 w q u K) (hU : K.map tv = U) (hS' : Small U) (id : Int) :
    Calls Try.prog 24 #[.pointer (some ⟨p, 0, none⟩), .pointer (some ⟨q, 0, none⟩), .int .i64 id] w fun e w' => e = .returned (.bool (difR T U id)) ∧ Kept w w' := by
  obtain ⟨b1, t1, l1, e1⟩ : ∃ b t l, blkR T id = (b, t, l) := ⟨_, _, _, rfl⟩
  obtain ⟨b2, t2, l2, e2⟩ : ∃ b t l, blkR U id = (b, t, l) := ⟨_, _, _, rfl⟩
  have HB := Lib.hid (block_rows h hT hS e1)
  have HC := Lib.hid (fun W (hk : Kept w W) => block_rows (h'.kept hk) hU hS' e2)
  have ed : difR T U id = ((b1, t1, l1) != (b2, t2, l2)) := by unfold difR; rw [e1, e2]
  rw [ed]
  generalize hr : ((b1, t1, l1) != (b2, t2, l2)) = r
  have HR := Lib.hid hr
  clear h h' hS hS' hT hU e1 e2 ed hr
  go_enter Try.func24, Try.ntmps24
  go_upto_region 1 with fail
  go_upto_region 2 with (go_at_call 37; refine (HB.out).mono ?_; rintro e w1 ⟨v1, rfl, H1⟩; obtain ⟨a1, c1, rfl⟩ := row_form H1.out.2)
  have K1 := Lib.hid (H1.out.1.alloc (.cells #[.int .i64 t1, .slice a1 l1.length c1] 62))
  have R1 := Lib.hid (own_kept H1.out.2 ((Kept.refl w1).alloc (.cells #[.int .i64 t1, .slice a1 l1.length c1] 62)))
  have B1 := Lib.hid (fun w' hk => box2 (w := w1) (w' := w') (a := .int .i64 t1) (b := .slice a1 l1.length c1) (t := 62) hk)
  clear H1 HB
  generalize w1.alloc (.cells #[.int .i64 t1, .slice a1 l1.length c1] 62) = W1 at *
  generalize w1.heap.size = g1 at *
  go_upto_region 3 with (go_at_call 37; refine (HC.out _ K1.out).mono ?_; rintro e w2 ⟨v2, rfl, H2⟩; obtain ⟨a2, c2, rfl⟩ := row_form H2.out.2)
  have k2 := H2.out.1.alloc (.cells #[.int .i64 t2, .slice a2 l2.length c2] 62)
  have K2 := Lib.hid (K1.out.trans k2)
  have R2 := Lib.hid (own_kept H2.out.2 ((Kept.refl w2).alloc (.cells #[.int .i64 t2, .slice a2 l2.length c2] 62)))
  have R1' := Lib.hid (own_kept R1.out k2)
  obtain ⟨x0, x1⟩ := B1.out _ k2
  obtain ⟨y0, y1⟩ := box2 (w := w2) (a := .int .i64 t2) (b := .slice a2 l2.length c2) (t := 62) (Kept.refl _)
  clear H2 HC R1 B1 K1 k2
  generalize w2.alloc (.cells #[.int .i64 t2, .slice a2 l2.length c2] 62) = W2 at *
  generalize w2.heap.size = g2 at *
  have HE := Lib.hid (equal_any W2 R1'.out R2.out)
  clear R1' R2
  generalize hn1 : l1.length = n1 at *
  generalize hn2 : l2.length = n2 at *
  by_cases hb : b1 = b2
  case neg =>
    have e0 : r = true := by rw [← HR.out, bne_iff_ne]; intro e; injection e with e; exact hb e
    subst e0
    clear hn1 hn2 HR
    cases b1 <;> cases b2 <;> first | exact absurd rfl hb | clear hb
    all_goals
      go_wp2
      go_ret
      exact ⟨rfl, K2.out⟩
  subst hb
  have e1 : (b1 != b1) = false := by simp
  by_cases ht : t1 = t2
  case neg =>
    have e0 : r = true := by rw [← HR.out, bne_iff_ne]; intro e; injection e with e e'; injection e' with e'; exact ht e'
    subst e0
    have e2 : (t1 != t2) = true := by rw [bne_iff_ne]; exact ht
    clear ht hn1 hn2 HR
    go_wp2
    go_ret
    exact ⟨rfl, K2.out⟩
  subst ht
  have e2 : (t1 != t1) = false := by simp
  have e0 : r = !(l1 == l2) := by
    rw [← HR.out]
    by_cases e : l1 = l2
    · subst e; simp
    · have h1 : (l1 == l2) = false := by rw [beq_eq_false_iff_ne]; exact e
      rw [h1, Bool.not_false, bne_iff_ne]; intro e'; injection e' with _ e'; injection e' with _ e'; exact e e'
  obtain ⟨eq, he⟩ : ∃ eq, (l1 == l2) = eq := ⟨_, rfl⟩
  rw [he] at HE e0
  have E0 := Lib.hid e0
  clear hn1 hn2 HR he e0
  go_wp2_with (go_at_call 38; refine (HE.out).mono ?_; rintro e w3 ⟨rfl, n3, rfl⟩)
  go_ret
  exact ⟨ret_bool E0.out.symm, K2.out.drewN _⟩
end Go.Proofs.Ythjnkjekidagiaa.Wch
namespace Go.Proofs.Ythjnkjekidagiaa.Wch
open Go.RowKit Go.Maps
open Mem

/-- The first of a list that is none of may, and of which D says so. -/
def chgR (D : Int → Bool) (may : List Int) : List Int → Int
  | [] => -1
  | i :: r => if may.contains i = false ∧ D i = true then i else chgR D may r
theorem chg_end (D : Int → Bool) (may l : List Int) {k : Nat} (h : l.length ≤ k) : chgR D may (l.drop k) = -1 := by rw [List.drop_of_length_le h]; rfl
theorem chg_hit {D : Int → Bool} {may l : List Int} {k : Nat} (hk : k < l.length) (h1 : may.contains l[k] = false) (h2 : D l[k] = true) : chgR D may (l.drop k) = l[k] := by
  rw [List.drop_eq_getElem_cons hk]; unfold chgR; rw [if_pos ⟨h1, h2⟩]
theorem chg_miss {D : Int → Bool} {may l : List Int} {k : Nat} (hk : k < l.length) (h : may.contains l[k] = true ∨ D l[k] = false) : chgR D may (l.drop k) = chgR D may (l.drop (k + 1)) := by
  rw [List.drop_eq_getElem_cons hk]; conv => lhs; unfold chgR
  rw [if_neg]
  rintro ⟨h1, h2⟩
  rcases h with h | h
  · rw [h1] at h; cases h
  · rw [h2] at h; cases h

set_option maxRecDepth 100000 in
set_option maxHeartbeats 4000000 in
theorem changed_any {B C : Nat} {w : World} {p q : Nat} {v u vi vm : Value} {L K : List Bk} {T U : List Row} {ids may : List Int} (h : MemAt B 64 w p v L) (hT : L.map tv = T) (hS : Small T) (h' : MemAt C 64 w q u K) (hU : K.map tv = U) (hS' : Small U) (hi : IntsAt w vi ids) (hm : IntsAt w vm may) :
    Calls Try.prog 10 #[.pointer (some ⟨p, 0, none⟩), .pointer (some ⟨q, 0, none⟩), vi, vm] w fun e w' => e = .returned (.int .i64 (chgR (difR T U) may ids)) ∧ Kept w w' := by
  obtain ⟨ia, ic, rfl⟩ := hi.form
  obtain ⟨ma, mc, rfl⟩ := hm.form
  have HI := Lib.hid hi
  have hlm : ids.length ≤ 9223372036854775807 := by
    rcases hi with ⟨_, h2⟩ | ⟨x, c, _, h2, h3, _⟩
    · subst h2; simp
    · simp only [maxLen] at h3; omega
  have HS := Lib.hid (set_any' w _ may hm)
  have HD := Lib.hid (fun W (hk : Kept w W) id => differs_any (h.kept hk) hT hS (h'.kept hk) hU hS' id)
  clear h h' hT hS hU hS' hi hm
  generalize hD : difR T U = D at *
  generalize hr : chgR D may ids = r
  have HR := Lib.hid hr
  clear hD hr
  go_enter Try.func10, Try.ntmps10
  go_wp2
  go_step3
  go_wp2_with (go_at_call 23; refine (HS.out).mono ?_; rintro e w1 ⟨b, rfl, H1⟩)
  go_step3
  go_wp2
  go_loopw [9, 19] (fun f i wr => ∃ k : Nat, f = .int .i64 (-1) ∧ k ≤ ids.length ∧ i = .int .i64 k ∧ Hid (Kept w wr ∧ Kept w1 wr ∧ chgR D may (ids.drop k) = r)) (fun _ i _ => ids.length - (intOf i).toNat)
  case atStart => exact ⟨0, rfl, Nat.zero_le _, rfl, Lib.hid ⟨H1.out.1, Kept.refl _, HR.out⟩⟩
  case round =>
    obtain ⟨k, rfl, hk, rfl, HK⟩ := hrel
    by_cases hlt : k < ids.length
    case neg =>
      have e := HK.out.2.2
      rw [chg_end D may ids (by omega)] at e
      subst e
      have K9 := Lib.hid HK.out.1
      clear HI HS HD H1 HR HK
      go_wp2
      rw [Exit.noGoto_ret]
      go_ret
      exact ⟨rfl, K9.out⟩
    obtain ⟨x, rfl, b1, b2, c1, wf⟩ := (HI.out.kept HK.out.1).at hlt
    have hkey : keyOf Try.prog 3 (.int .i64 ids[k]) = some (.int .i64 ids[k]) := keyOf_int_mk Try.underlying3 wf
    have hown : SetAt wr b may := H1.out.2.2.2.kept HK.out.2.1 H1.out.2.2.1
    unfold SetAt at hown
    have HH := Lib.hid (has_setD may may.length ids[k])
    have HD1 := Lib.hid (HD.out _ ((HK.out.1.alloc (.cells #[] 67))) ids[k])
    have H1' := Lib.hid (fun h1 h2 => (chg_hit (D := D) (may := may) hlt h1 h2).symm.trans HK.out.2.2)
    have H2' := Lib.hid (fun h => (chg_miss (D := D) (may := may) hlt h).symm.trans HK.out.2.2)
    rw [List.take_of_length_le (Nat.le_refl _)] at HH
    clear HI HS HD HR wf
    generalize ids[k] = n at *
    simp only [maxLen] at b2
    cases hc : may.contains n
    case' true =>
      rw [hc] at HH
      have HN := Lib.hid (H2'.out (.inl hc))
      clear hc HD1
      go_wp2_with (at_lookup; refine wpList_lookup_own_unit _ rfl _ _ 65 rfl 3 67 key_law Try.underlying65 (unit_zero _) b may.length _ rfl hown _ _ rfl hkey ?_; rw [HH.out])
      exact ⟨⟨k + 1, rfl, by omega, by simp, Lib.hid ⟨HK.out.1.alloc _, HK.out.2.1.alloc _, HN.out⟩⟩, by simp [intOf]; omega⟩
    case' false =>
      rw [hc] at HH
      cases hd : D n
      case' true =>
        rw [hd] at HD1
        have HN := Lib.hid (H1'.out hc hd)
        clear hc hd
        go_wp2_with (first | (at_lookup; refine wpList_lookup_own_unit _ rfl _ _ 65 rfl 3 67 key_law Try.underlying65 (unit_zero _) b may.length _ rfl hown _ _ rfl hkey ?_; rw [HH.out]) | (go_at_call 24; refine (HD1.out).mono ?_; rintro e w2 ⟨rfl, k2⟩; have K2 := Lib.hid (HK.out.1.alloc (.cells #[] 67) |>.trans k2); clear k2))
        rw [Exit.noGoto_ret]
        go_ret
        exact ⟨by rw [HN.out]; rfl, K2.out⟩
      case' false =>
        rw [hd] at HD1
        have HN := Lib.hid (H2'.out (.inr hd))
        clear hc hd
        go_wp2_with (first | (at_lookup; refine wpList_lookup_own_unit _ rfl _ _ 65 rfl 3 67 key_law Try.underlying65 (unit_zero _) b may.length _ rfl hown _ _ rfl hkey ?_; rw [HH.out]) | (go_at_call 24; refine (HD1.out).mono ?_; rintro e w2 ⟨rfl, k2⟩; have K2 := Lib.hid (And.intro ((HK.out.1.alloc (.cells #[] 67)).trans k2) ((HK.out.2.1.alloc (.cells #[] 67)).trans k2)); clear k2))
        exact ⟨⟨k + 1, rfl, by omega, by simp, Lib.hid ⟨K2.out.1, K2.out.2, HN.out⟩⟩, by simp [intOf]; omega⟩
end Go.Proofs.Ythjnkjekidagiaa.Wch
namespace Go.Proofs.Ythjnkjekidagiaa.Wch
open Go.RowKit
open Mem

theorem mem_take_succ {l : List Int} {k : Nat} (hk : k < l.length) (n : Int) : (l.take (k + 1)).contains n = ((l.take k).contains n || l[k] == n) := by
  rw [List.take_succ_eq_append_getElem hk, List.contains_append, List.contains_cons, List.contains_nil, Bool.or_false, BEq.comm (a := n)]
theorem blk_none {T : List Row} {id t : Int} {l : List Int} (h : blkR T id = (false, t, l)) : t = 0 ∧ l = [] := by
  unfold blkR at h
  split at h
  · split at h
    · simp at h
    · simp at h; exact ⟨h.1.symm, h.2⟩
  · simp at h; exact ⟨h.1.symm, h.2⟩

set_option maxRecDepth 100000 in
set_option maxHeartbeats 4000000 in
theorem rchanged_any {B C : Nat} {w : World} {p q : Nat} {v u vi vm : Value} {L K : List Bk} {T U : List Row} {ids may : List Int} (h : MemAt B 55 w p v L) (hT : L.map tv = T) (hS : Small T) (h' : MemAt C 55 w q u K) (hU : K.map tv = U) (hS' : Small U) (hi : IntsAt w vi ids) (hm : IntsAt w vm may) :
    Calls Try.prog 11 #[.pointer (some ⟨p, 0, none⟩), .pointer (some ⟨q, 0, none⟩), vi, vm] w fun e w' => e = .returned (.int .i64 (chgR (difR T U) may ids)) ∧ Kept w w' := by
  obtain ⟨ia, ic, rfl⟩ := hi.form
  obtain ⟨ma, mc, rfl⟩ := hm.form
  have HI := Lib.hid hi
  have HM := Lib.hid hm
  have hl : ∀ {v : Value} {l : List Int}, IntsAt w v l → l.length ≤ 9223372036854775807 := by
    rintro v l (⟨_, h2⟩ | ⟨x, c, _, h2, h3, _⟩)
    · subst h2; simp
    · simp only [maxLen] at h3; omega
  have hlm := hl hi
  have hlm' := hl hm
  have HB := Lib.hid (fun W (hk : Kept w W) (id : Int) (b : Bool) (t : Int) (l : List Int) (hb : blkR T id = (b, t, l)) => rblock_rows (h.kept hk) hT hS hb)
  have HC := Lib.hid (fun W (hk : Kept w W) (id : Int) (b : Bool) (t : Int) (l : List Int) (hb : blkR U id = (b, t, l)) => rblock_rows (h'.kept hk) hU hS' hb)
  clear h h' hT hS hU hS' hi hm hl
  generalize hr : chgR (difR T U) may ids = r
  have HR := Lib.hid hr
  clear hr
  go_enter Try.func11, Try.ntmps11
  go_wp2
  go_loopw [9] (fun i wr => ∃ k : Nat, k ≤ ids.length ∧ i = .int .i64 k ∧ Hid (Kept w wr ∧ chgR (difR T U) may (ids.drop k) = r)) (fun i _ => ids.length - (intOf i).toNat)
  case atStart => exact ⟨0, Nat.zero_le _, rfl, Lib.hid ⟨Kept.refl _, HR.out⟩⟩
  case round =>
    obtain ⟨k, hk, rfl, HK⟩ := hrel
    by_cases hlt : k < ids.length
    case neg =>
      have e := HK.out.2
      rw [chg_end _ may ids (by omega)] at e
      subst e
      have K9 := Lib.hid HK.out.1
      clear HI HB HC HM HR HK
      go_wp2
      go_ret
      exact ⟨rfl, K9.out⟩
    obtain ⟨x, hx, b1, b2, c1, wf⟩ := (HI.out.kept HK.out.1).at hlt
    have HX := Lib.hid (fun W (hk : Kept w W) => (HI.out.kept hk).at hlt)
    subst hx
    have H1' := Lib.hid (fun h1 h2 => (chg_hit (D := difR T U) (may := may) hlt h1 h2).symm.trans HK.out.2)
    have H2' := Lib.hid (fun h => (chg_miss (D := difR T U) (may := may) hlt h).symm.trans HK.out.2)
    clear HR wf
    generalize ids[k] = n at *
    simp only [maxLen] at b2
    rename World => wo
    go_wp2
    go_loopw [10, 11] (fun f i wz => ∃ m : Nat, m ≤ may.length ∧ f = .bool ((may.take m).contains n) ∧ i = .int .i64 m ∧ Hid (Kept wo wz)) (fun _ i _ => may.length - (intOf i).toNat)
    case atStart => exact ⟨0, Nat.zero_le _, rfl, rfl, Lib.hid (Kept.refl _)⟩
    case round =>
      obtain ⟨m, hm, rfl, rfl, HW⟩ := hrel
      have KW := Lib.hid (HK.out.1.trans HW.out)
      obtain ⟨x2, hx2, -, -, c2, -⟩ := HX.out _ KW.out
      injection hx2 with hx2
      subst hx2
      clear c1
      by_cases hlm2 : m < may.length
      case pos =>
        obtain ⟨y, hy, d1, d2, e1, -⟩ := (HM.out.kept KW.out).at hlm2
        subst hy
        have hS := mem_take_succ hlm2 n
        simp only [maxLen] at d2
        cases hf : (may.take m).contains n
        case' true =>
          rw [hf, Bool.true_or] at hS
          have HS' := Lib.hid hS
          clear hf hS HM HI HB HC H1' H2' HX
        case' false =>
          rw [hf, Bool.false_or] at hS
          have HS' := Lib.hid hS
          clear hf hS HM HI HB HC H1' H2' HX
        all_goals
          generalize may[m] = v1 at *
          go_wp2
          go_quiet (fail)
          go_wp2
          exact ⟨⟨m + 1, by omega, by rw [HS'.out], by simp, Lib.hid (HW.out.drewN _)⟩, by simp [intOf]; omega⟩
      case neg =>
        obtain rfl : m = may.length := by omega
        have hfree : (may.take may.length).contains n = may.contains n := by rw [List.take_of_length_le (Nat.le_refl _)]
        rw [hfree]
        obtain ⟨t1, l1, q1, e1⟩ : ∃ t l b, blkR T n = (b, t, l) := ⟨_, _, _, rfl⟩
        obtain ⟨t2, l2, q2, e2⟩ : ∃ t l b, blkR U n = (b, t, l) := ⟨_, _, _, rfl⟩
        have ed : difR T U n = ((q1, t1, l1) != (q2, t2, l2)) := by unfold difR; rw [e1, e2]
        have HB1 := Lib.hid (HB.out _ KW.out n q1 t1 l1 e1)
        have HC1 := Lib.hid (fun W hk => HC.out W hk n q2 t2 l2 e2)
        have HX2 := Lib.hid (fun W hk => HX.out W hk)
        have Z1 := Lib.hid (fun (h : q1 = false) => blk_none (by rw [e1, h]))
        have Z2 := Lib.hid (fun (h : q2 = false) => blk_none (by rw [e2, h]))
        rw [ed] at H1' H2'
        clear HB HC HX e1 e2 ed hfree HM HI
        generalize may.contains n = fr at *
        go_upto_region 10 with (go_at_call 25; refine (HB1.out).mono ?_; rintro e w1 ⟨v1, rfl, H1⟩; obtain ⟨a1, d1, rfl⟩ := row_form H1.out.2)
        have K1 := Lib.hid (H1.out.1.alloc (.cells #[.int .i64 t1, .slice a1 l1.length d1] 62))
        have R1 := Lib.hid (own_kept H1.out.2 ((Kept.refl w1).alloc (.cells #[.int .i64 t1, .slice a1 l1.length d1] 62)))
        have B1 := Lib.hid (fun w' hk => box2 (w := w1) (w' := w') (a := .int .i64 t1) (b := .slice a1 l1.length d1) (t := 62) hk)
        clear H1 HB1 c2
        generalize w1.alloc (.cells #[.int .i64 t1, .slice a1 l1.length d1] 62) = W1 at *
        generalize w1.heap.size = g1 at *
        obtain ⟨x3, hx3, -, -, c3, -⟩ := HX2.out _ (KW.out.trans K1.out)
        injection hx3 with hx3
        subst hx3
        go_upto_region 11 with (go_at_call 25; refine (HC1.out _ (KW.out.trans K1.out)).mono ?_; rintro e w2 ⟨v2, rfl, H2⟩; obtain ⟨a2, d2, rfl⟩ := row_form H2.out.2)
        have k2 := H2.out.1.alloc (.cells #[.int .i64 t2, .slice a2 l2.length d2] 62)
        have K2 := Lib.hid ((KW.out.trans K1.out).trans k2)
        have R2 := Lib.hid (own_kept H2.out.2 ((Kept.refl w2).alloc (.cells #[.int .i64 t2, .slice a2 l2.length d2] 62)))
        have R1' := Lib.hid (own_kept R1.out k2)
        obtain ⟨x0, x1⟩ := B1.out _ k2
        obtain ⟨y0, y1⟩ := box2 (w := w2) (a := .int .i64 t2) (b := .slice a2 l2.length d2) (t := 62) (Kept.refl _)
        clear H2 HC1 R1 B1 K1 k2 c3 KW HW
        generalize w2.alloc (.cells #[.int .i64 t2, .slice a2 l2.length d2] 62) = W2 at *
        generalize w2.heap.size = g2 at *
        have HE := Lib.hid (same_any W2 t1 t2 R1'.out R2.out)
        clear R1' R2
        obtain ⟨x4, hx4, -, -, c4, -⟩ := HX2.out _ K2.out
        injection hx4 with hx4
        subst hx4
        have HL := Lib.hid hlt
        cases fr
        case true =>
          have HF := Lib.hid (H2'.out (.inl rfl))
          clear H1' H2' Z1 Z2 HE HX2 HK
          go_wp2
          exact ⟨⟨k + 1, by omega, by simp, Lib.hid ⟨K2.out, HF.out⟩⟩, by simp [intOf]; omega⟩
        case false =>
          by_cases hb : q1 = q2
          case neg =>
            have hd : ((q1, t1, l1) != (q2, t2, l2)) = true := by rw [bne_iff_ne]; intro e; injection e with e; exact hb e
            have HF := Lib.hid (H1'.out rfl hd)
            clear H1' H2' Z1 Z2 HE HX2 HK hd
            cases q1 <;> cases q2 <;> first | exact absurd rfl hb | clear hb
            all_goals
              go_wp2
              go_ret
              exact ⟨by rw [HF.out]; rfl, K2.out⟩
          case pos =>
            subst hb
            cases q1
            case false =>
              obtain ⟨rfl, rfl⟩ := Z1.out rfl
              obtain ⟨rfl, rfl⟩ := Z2.out rfl
              have HF := Lib.hid (H2'.out (.inr (by simp)))
              clear H1' H2' Z1 Z2 HE HX2 HK
              go_wp2
              exact ⟨⟨k + 1, by omega, by simp, Lib.hid ⟨K2.out, HF.out⟩⟩, by simp [intOf]; omega⟩
            case true =>
              have hd : ((true, t1, l1) != (true, t2, l2)) = !(t1 == t2 && l1 == l2) := by
                by_cases ht : t1 = t2
                · subst ht
                  by_cases hl : l1 = l2
                  · subst hl; simp
                  · have h1 : (l1 == l2) = false := by rw [beq_eq_false_iff_ne]; exact hl
                    rw [h1, Bool.and_false, Bool.not_false, bne_iff_ne]; intro e; injection e with _ e; injection e with _ e; exact hl e
                · have h1 : (t1 == t2) = false := by rw [beq_eq_false_iff_ne]; exact ht
                  rw [h1, Bool.false_and, Bool.not_false, bne_iff_ne]; intro e; injection e with _ e; injection e with e; exact ht e
              cases he : (t1 == t2 && l1 == l2)
              case' true =>
                rw [he] at HE hd
                have HF := Lib.hid (H2'.out (.inr hd))
                clear H1' H2' Z1 Z2 HX2 HK hd he
                go_wp2_with (go_at_call 26; refine (HE.out).mono ?_; rintro e w3 ⟨rfl, k3⟩; have K3 := Lib.hid (K2.out.trans k3); clear k3)
                exact ⟨⟨k + 1, by omega, by simp, Lib.hid ⟨K3.out, HF.out⟩⟩, by simp [intOf]; omega⟩
              case' false =>
                rw [he] at HE hd
                have HF := Lib.hid (H1'.out rfl hd)
                clear H1' H2' Z1 Z2 HK hd he c4
                go_wp2_with (go_at_call 26; refine (HE.out).mono ?_; rintro e w3 ⟨rfl, k3⟩; have K3 := Lib.hid (K2.out.trans k3); clear k3; obtain ⟨x5, hx5, -, -, c5, -⟩ := HX2.out _ K3.out; injection hx5 with hx5; subst hx5)
                go_ret
                exact ⟨by rw [HF.out]; rfl, K3.out⟩
end Go.Proofs.Ythjnkjekidagiaa.Wch
namespace Go.Proofs.Ythjnkjekidagiaa.Evl
open Go.RowKit
open Prs (Ex Cn)
open Fnd
open Lex (lst)
def namesL : List Bi := [⟨[120], 5, 0, 0⟩, ⟨[121], 2, 0, 1⟩, ⟨[103, 48], 6, 0, 2⟩, ⟨[103, 97], 3, 4, 3⟩]
def namesC : Array Value := #[.string ⟨#[120]⟩, .int .i64 5, .int .i64 0, .int .i64 0, .string ⟨#[121]⟩, .int .i64 2, .int .i64 0, .int .i64 1, .string ⟨#[103, 48]⟩, .int .i64 6, .int .i64 0, .int .i64 2, .string ⟨#[103, 97]⟩, .int .i64 3, .int .i64 4, .int .i64 3]
theorem names_any (w : World) : Calls Try.prog 18 #[] w fun x w' => x = .returned (.slice (some ⟨w.heap.size, 0, none⟩) 4 4) ∧ w' = w.alloc (.cells namesC 58) := by
  go_enter Try.func18, Try.ntmps18
  go_wp2
  go_ret
  exact ⟨rfl, rfl⟩
theorem names_at {w : World} {b : Nat} (h : w.heap[b]? = some (.cells namesC 58 (0, 0))) : BindsAt w.heap.size w (.slice (some ⟨b, 0, none⟩) 4 4) namesL := by
  refine ⟨by decide, .inr ⟨b, 4, rfl, by decide, by simp [maxLen], (Array.getElem?_eq_some_iff.1 h).1, fun j hj => ?_⟩⟩
  have hj4 : j < 4 := hj
  rcases (show j = 0 ∨ j = 1 ∨ j = 2 ∨ j = 3 by omega) with rfl | rfl | rfl | rfl <;> exact ⟨bx_cell h _ _ rfl, bx_cell h _ _ rfl, bx_cell h _ _ rfl, bx_cell h _ _ rfl⟩
theorem exs_at (l : List Ex) (i : Nat) (hi : i < l.length) (k : Nat) (hk : k < 7) : (Rpr.exCells l)[i * 7 + k]? = (Rpr.exCell l[i])[k]? := by
  unfold Rpr.exCells
  induction l generalizing i with
  | nil => simp at hi
  | cons a l ih =>
    rw [List.flatMap_cons]
    have h7 : (Rpr.exCell a).length = 7 := rfl
    cases i with
    | zero => rw [List.getElem?_append_left (by omega)]; simp
    | succ i =>
      rw [List.getElem?_append_right (by omega), h7, show (i + 1) * 7 + k - 7 = i * 7 + k by omega]
      exact ih i (by simpa using hi)
/-- A list of nodes of one's own lies in memory. -/
theorem own_list {w : World} {B : Nat} {v : Value} {l : List Ex} (h : w.ownsRow B 146 7 v l.length (Rpr.exCells l)) (hl : l.length ≤ 8193) : ListAt w v l := by
  refine ⟨hl, ?_⟩
  rcases h.2 with ⟨h1, h2⟩ | ⟨b, cap, cur, h0, hb, hh, hn, hm, hsz, ht⟩
  · exact .inl ⟨h1, List.length_eq_zero_iff.1 h2⟩
  · refine .inr ⟨b, cap, cur, h0, hn, hm, hh, fun i hi => ?_⟩
    have hc : ∀ k, k < 7 → cur[i * 7 + k]? = (Rpr.exCell l[i])[k]? := by
      intro k hk
      rw [← exs_at l i hi k hk, ← ht, List.getElem?_take, if_pos (by omega)]; simp
    have h0 := hc 0 (by omega)
    rw [Nat.add_zero] at h0
    exact ⟨h0, hc 1 (by omega), hc 2 (by omega), hc 3 (by omega), hc 4 (by omega), hc 5 (by omega), hc 6 (by omega)⟩
theorem lst_add (s : ByteArray) (b : Array UInt8) : lst (s ++ ⟨b⟩) = lst s ++ b.toList := by simp [lst]
end Go.Proofs.Ythjnkjekidagiaa.Evl
namespace Go.Proofs.Ythjnkjekidagiaa.Evl
open Go.RowKit
open Typ (wrapF)
open Mem (Row tv getT setT get_yes noughts)

def rowOf (t : Int) (s : Nat) (u : List Int) : Row := (t, (u.take s).map (wrapF t) ++ List.replicate (s - u.length) 0)
def fillF : List (Int × Nat) → List Int → List Row
  | [], _ => []
  | x :: r, u => rowOf x.1 x.2 u :: fillF r (u.drop x.2)
def sizesL : List (Int × Nat) := [(5, 1), (2, 1), (6, 1), (3, 4)]
def bothF (u : List Int) : List Row := fillF sizesL u
/-- A row under way: so many values are set. -/
def partF (t : Int) (s : Nat) (u : List Int) (j : Nat) : Row := (t, (u.take j).map (wrapF t) ++ List.replicate (s - j) 0)
theorem part_zero (t : Int) (s : Nat) (u : List Int) : partF t s u 0 = (t, List.replicate s 0) := rfl
theorem part_end (t : Int) (s : Nat) (u : List Int) (j : Nat) (hs : j ≤ s) (hj : j ≤ u.length) (h : j = s ∨ j = u.length) : partF t s u j = rowOf t s u := by
  unfold partF rowOf
  rcases h with rfl | rfl
  · rw [show j - u.length = j - j by omega]
  · rw [List.take_of_length_le (Nat.le_refl _), List.take_of_length_le hs]
theorem part_len (t : Int) (s : Nat) (u : List Int) (j : Nat) (hs : j ≤ s) (hj : j ≤ u.length) : (partF t s u j).2.length = s := by
  unfold partF
  simp
  omega
theorem part_step (t : Int) (s : Nat) (u : List Int) (j : Nat) (T : List Row) (x : Int) (hs : j < s) (hj : j < u.length) (hx : u[j] = x) :
    setT (T ++ [partF t s u j]) T.length j x = T ++ [partF t s u (j + 1)] := by
  have hl := part_len t s u j (by omega) (by omega)
  have h1 : (T ++ [partF t s u j])[T.length]? = some (partF t s u j) := by simp
  have h2 : (partF t s u j).2[j]? = some (0 : Int) := by
    have hlen : ((u.take j).map (wrapF t)).length = j := by rw [List.length_map, List.length_take]; omega
    show ((u.take j).map (wrapF t) ++ List.replicate (s - j) 0)[j]? = some 0
    rw [List.getElem?_append_right (by omega), hlen, Nat.sub_self, List.getElem?_replicate, if_pos (by omega)]
  unfold setT
  rw [get_yes h1 h2]
  simp only [if_true]
  rw [Int.toNat_natCast, h1]
  simp only
  rw [List.set_append_right _ _ (by simp)]
  simp only [Nat.sub_self, List.set_cons_zero, Int.toNat_natCast]
  congr 1
  congr 1
  unfold partF
  simp only
  congr 1
  rw [List.take_add_one, List.getElem?_eq_getElem hj, hx]
  rw [List.set_append_right _ _ (by simp; omega)]
  simp only [Option.toList_some, List.map_append, List.map_cons, List.map_nil, List.append_assoc, List.length_map, List.length_take, Nat.min_eq_left (Nat.le_of_lt hj), Nat.sub_self]
  congr 1
  rw [show s - j = (s - (j + 1)) + 1 by omega, List.replicate_succ]
  rfl
/-- Where each row's values begin. -/
def offF : Nat → Nat
  | 0 => 0 | 1 => 1 | 2 => 2 | 3 => 3 | _ => 7
def tyF : Nat → Int
  | 0 => 5 | 1 => 2 | 2 => 6 | _ => 3
def szF : Nat → Nat
  | 3 => 4 | _ => 1
def rowsAt (u : List Int) (i : Nat) : List Row := (bothF u).take i
theorem rows_len (u : List Int) (i : Nat) (h : i ≤ 4) : (rowsAt u i).length = i := by
  unfold rowsAt bothF sizesL fillF fillF fillF fillF fillF
  simp; omega
theorem rows_succ (u : List Int) (i : Nat) (h : i < 4) : rowsAt u (i + 1) = rowsAt u i ++ [rowOf (tyF i) (szF i) (u.drop (offF i))] := by
  rcases (show i = 0 ∨ i = 1 ∨ i = 2 ∨ i = 3 by omega) with rfl | rfl | rfl | rfl <;> simp [rowsAt, bothF, sizesL, fillF, tyF, szF, offF, List.drop_drop]
theorem rows_end (u : List Int) : rowsAt u 4 = bothF u := rfl
theorem off_succ (i : Nat) (h : i < 4) : offF (i + 1) = offF i + szF i := by
  rcases (show i = 0 ∨ i = 1 ∨ i = 2 ∨ i = 3 by omega) with rfl | rfl | rfl | rfl <;> rfl
theorem off_le (i : Nat) : offF i ≤ 7 := by
  unfold offF; split <;> omega
theorem sz_le (i : Nat) : 1 ≤ szF i ∧ szF i ≤ 4 := by
  unfold szF; split <;> omega
theorem noughts_sz (t : Int) (u : List Int) (i : Nat) : (t, noughts (szF i)) = partF t (szF i) u 0 := by
  rw [part_zero]
  unfold noughts
  have := sz_le i
  rw [show (min (max ((szF i : Nat) : Int) 1) 16).toNat = szF i by omega]
end Go.Proofs.Ythjnkjekidagiaa.Evl
namespace Go.Proofs.Ythjnkjekidagiaa.Evl
open Go.RowKit
open Fnd (bx_cell bx_froz)
open Mem (Row St Stays st_add st_radd st_set st_rset MemAt new_any new_at noughts)

/-- A row of numbers that came in. -/
def NumsAt (w : World) (v : Value) (vs : List Int) : Prop :=
  vs.length ≤ 20 ∧ ((v = .slice none 0 0 ∧ vs = []) ∨ ∃ (x : Addr) (c : Nat), v = .slice (some x) vs.length c ∧ vs.length ≤ c ∧ c ≤ maxLen ∧ ∀ j (h : j < vs.length), (x.add j).block < w.heap.size ∧ w.cell? (x.add j) = some (.int .i64 vs[j]))
theorem NumsAt.form {w : World} {v : Value} {vs : List Int} (h : NumsAt w v vs) : ∃ a c, v = .slice a vs.length c := by
  rcases h.2 with ⟨h1, h2⟩ | ⟨x, c, h1, _⟩
  · exact ⟨none, 0, by rw [h1, h2]; rfl⟩
  · exact ⟨_, _, h1⟩
theorem NumsAt.at {w w' : World} {a : Option Addr} {c n : Nat} {vs : List Int} (h : NumsAt w (.slice a n c) vs) (hk : Kept w w') {j : Nat} (hj : j < vs.length) : ∃ x, a = some x ∧ vs.length ≤ c ∧ c ≤ maxLen ∧ w'.cell? (x.add j) = some (.int .i64 vs[j]) := by
  rcases h.2 with ⟨h1, h2⟩ | ⟨x, c', h1, h2, h3, h5⟩
  · subst h2; simp at hj
  · injection h1 with e1 e2 e3
    subst e1 e3
    exact ⟨x, rfl, h2, h3, (World.cell?_of_block (a := x.add j) (hk.block (x.add j).block (h5 j hj).1)).trans (h5 j hj).2⟩
theorem st_begin (w : World) : St w ((w.alloc (.cells #[.slice none 0 0] 64)).alloc (.cells #[.slice none 0 0] 55)) w.heap.size (w.heap.size + 1) [] [] := by
  have h2 := World.alloc_heap_new (w.alloc (.cells #[.slice none 0 0] 64)) (.cells #[.slice none 0 0] 55)
  rw [show (w.alloc (.cells #[.slice none 0 0] 64)).heap.size = w.heap.size + 1 by simp] at h2
  refine ⟨.slice none 0 0, .slice none 0 0, [], [], ((Kept.refl w).alloc _).alloc _, (new_at w w.heap.size (Nat.le_refl _)).kept ((Kept.refl _).alloc _), rfl, ⟨by omega, h2, ⟨rfl, .inl ⟨rfl, rfl⟩⟩, by simp, by simp, by simp⟩, rfl, ?_⟩
  intro k hk hr
  rcases hk with rfl | hk | ⟨x, hx, _⟩
  · rcases hr with e | e | ⟨x, hx, _⟩
    · omega
    · simp [Value.ownBlock] at e
    · cases hx
  · simp [Value.ownBlock] at hk
  · cases hx
theorem _root_.Go.Proofs.Ythjnkjekidagiaa.Mem.St.keep0 {w0 w : World} {pm pr : Nat} {T T' : List Row} (h : St w0 w pm pr T T') : Kept w0 w := by
  obtain ⟨_, _, _, _, k, _⟩ := h
  exact k
def zF (i : Nat) : Int := if i = 3 then 4 else 0
theorem names_cell (i : Nat) (h : i < 4) : namesC[i * 4 + 1]? = some (.int .i64 (tyF i)) ∧ namesC[i * 4 + 2]? = some (.int .i64 (zF i)) := by
  rcases (show i = 0 ∨ i = 1 ∨ i = 2 ∨ i = 3 by omega) with rfl | rfl | rfl | rfl <;> exact ⟨rfl, rfl⟩
theorem z_max (i : Nat) : max 1 (zF i) = (szF i : Int) := by
  by_cases h : i = 3
  · subst h; rfl
  · unfold zF szF
    rw [if_neg h]
    split
    · exact absurd rfl h
    · rfl
set_option maxRecDepth 100000 in
set_option maxHeartbeats 4000000 in
theorem both_any (w : World) (v : Value) (vs : List Int) (hv : NumsAt w v vs) : Calls Try.prog 7 #[v] w fun x w' => ∃ pm pr, x = .returned (.tuple #[.pointer (some ⟨pm, 0, none⟩), .pointer (some ⟨pr, 0, none⟩), .bool true]) ∧ Hid (St w w' pm pr (bothF vs) (bothF vs)) := by
  obtain ⟨a, c, hf⟩ := hv.form
  subst hf
  have HV := Lib.hid hv
  have h20 : vs.length ≤ 20 := hv.1
  clear hv
  go_enter Try.func7, Try.ntmps7
  go_upto_region 2 with (go_at_call 12; refine (new_any _).mono ?_; rintro e w1 ⟨rfl, rfl⟩)
  have HS := Lib.hid (st_begin w)
  have hsz : ((w.alloc (.cells #[.slice none 0 0] 64)).alloc (.cells #[.slice none 0 0] 55)).heap.size = w.heap.size + 2 := by simp
  generalize ((w.alloc (.cells #[.slice none 0 0] 64)).alloc (.cells #[.slice none 0 0] 55)) = W1 at *
  go_upto_region 5 with (go_at_call 18; refine (names_any _).mono ?_; rintro e w2 ⟨rfl, rfl⟩)
  have hN := World.alloc_heap_new W1 (.cells namesC 58)
  have HS2 := Lib.hid (HS.out.kept ((Kept.refl W1).alloc (.cells namesC 58)))
  rw [hsz] at hN
  generalize w.heap.size + 2 = bn at *
  generalize W1.alloc (.cells namesC 58) = W2 at *
  have HN := Lib.hid hN
  clear hN hsz HS
  generalize w.heap.size + 1 = pr at *
  obtain ⟨pm, hpm⟩ : ∃ pm, w.heap.size = pm := ⟨_, rfl⟩
  rw [hpm] at HS2 ⊢
  clear hpm
  go_wp2_with fail
  go_loopw [8, 9] (fun k i wx => ∃ n m : Nat, k = .int .i64 (m : Int) ∧ i = .int .i64 (n : Int) ∧ n ≤ 4 ∧ m = min (offF n) vs.length ∧ Hid (St w wx pm pr (rowsAt vs n) (rowsAt vs n) ∧ wx.heap[bn]? = some (.cells namesC 58 (0, 0)))) (fun _ i _ => 4 - (intOf i).toNat)
  case atStart => exact ⟨0, 0, rfl, rfl, by omega, by simp [offF], Lib.hid ⟨HS2.out, HN.out⟩⟩
  case round =>
    obtain ⟨n, m, rfl, rfl, hn, hm, HI⟩ := hrel
    clear HS2 HN
    by_cases hlt : n < 4
    · obtain ⟨d1, d2⟩ := names_cell n hlt
      have c1 := bx_cell HI.out.2 _ _ d1
      have c2 := bx_cell HI.out.2 _ _ d2
      clear d1 d2
      have hz := z_max n
      have hzs := sz_le n
      have hTl := rows_len vs n hn
      obtain ⟨T, hT⟩ : ∃ T, rowsAt vs n = T := ⟨_, rfl⟩
      have HT := Lib.hid hT
      rw [hT] at HI hTl
      have HNo := Lib.hid (noughts_sz (tyF n) (vs.drop (offF n)) n)
      have HTl := Lib.hid hTl
      clear hT hTl
      have HA := Lib.hid (st_add (HI.out.1.kept (Kept.refl wr).drew) (by rw [HTl.out]; omega) (tyF n) (max 1 (zF n)) (by omega))
      obtain ⟨z, hzz⟩ : ∃ z, zF n = z := ⟨_, rfl⟩
      rw [hzz] at HA hz c2
      have HMm := Lib.hid hm
      clear hm
      obtain ⟨sz, hsz⟩ : ∃ sz, szF n = sz := ⟨_, rfl⟩
      obtain ⟨ty, hty⟩ : ∃ ty, tyF n = ty := ⟨_, rfl⟩
      rw [hsz] at HNo hz hzs
      rw [hty] at HNo HA c1
      rw [hz] at HA
      go_upto_block 1 with fail
      go_cut [8, 10] from 17 to 22 (fun x _ wx => x = .int .i64 ((min (offF (n + 1)) vs.length : Nat) : Int) ∧ Hid (St w wx pm pr (rowsAt vs (n + 1)) (rowsAt vs (n + 1)) ∧ wx.heap[bn]? = some (.cells namesC 58 (0, 0))))
      case first =>
        go_upto_region 9 with fail
        go_cut [9] from 17 to 22 (fun x wx => x = .int .i64 (n : Int) ∧ Hid (St w wx pm pr (T ++ [partF ty sz (vs.drop (offF n)) 0]) T ∧ wx.heap[bn]? = some (.cells namesC 58 (0, 0))))
        case first =>
          go_region_with (go_at_call 13; refine HA.out.mono ?_; rintro e w3 ⟨rfl, H3⟩)
          all_goals
            have HX : Hid (St w w3 pm pr (T ++ [partF ty sz (vs.drop (offF n)) 0]) T ∧ w3.heap[bn]? = some (.cells namesC 58 (0, 0))) := Lib.hid ⟨by rw [← HNo.out]; exact H3.out.1, H3.out.2 _ _ _ (by decide) (by decide) (by decide) (by decide) HI.out.2⟩
            go_wp2
            go_meet
            exact ⟨rfl, HX⟩
        case rest =>
          obtain ⟨rfl, HX⟩ := hcut
          clear HA c1 c2 HI
          obtain ⟨d1, d2⟩ := names_cell n hlt
          have c1 := bx_cell HX.out.2 _ _ d1
          have c2 := bx_cell HX.out.2 _ _ d2
          rw [hty] at c1
          rw [hzz] at c2
          clear d1 d2
          have HA := Lib.hid (st_radd (HX.out.1.kept (Kept.refl wc).drew) (by rw [HTl.out]; omega) ty (max 1 z) (by omega))
          rw [hz] at HA
          go_upto_region 10 with fail
          go_cut [9] from 17 to 22 (fun x wx => x = .int .i64 (n : Int) ∧ Hid (St w wx pm pr (T ++ [partF ty sz (vs.drop (offF n)) 0]) (T ++ [partF ty sz (vs.drop (offF n)) 0]) ∧ wx.heap[bn]? = some (.cells namesC 58 (0, 0))))
          case first =>
            go_region_with (go_at_call 19; refine HA.out.mono ?_; rintro e w3 ⟨rfl, H3⟩)
            all_goals
              have h3 := H3.out.1
              rw [HNo.out] at h3
              have HX2 : Hid (St w w3 pm pr (T ++ [partF ty sz (vs.drop (offF n)) 0]) (T ++ [partF ty sz (vs.drop (offF n)) 0]) ∧ w3.heap[bn]? = some (.cells namesC 58 (0, 0))) := Lib.hid ⟨h3, H3.out.2 _ _ _ (by decide) (by decide) (by decide) (by decide) HX.out.2⟩
              clear h3
              go_wp2
              go_meet
              exact ⟨rfl, HX2⟩
          case rest =>
            obtain ⟨rfl, HX2⟩ := hcut
            clear HA c1 c2 HX
            have hoff := off_le n
            have hm1 : m ≤ vs.length := by have := HMm.out; omega
            obtain ⟨U, hU⟩ : ∃ U, vs.drop (offF n) = U := ⟨_, rfl⟩
            have hUl : m + U.length = vs.length := by have := HMm.out; rw [← hU, List.length_drop]; omega
            have hUat : ∀ j (h : j < U.length), m + j < vs.length ∧ vs[m + j]? = some U[j] := by
              intro j h
              have h2 := HMm.out
              have h3 : offF n = m := by rw [← hU, List.length_drop] at h; omega
              refine ⟨by omega, ?_⟩
              subst hU
              rw [← List.getElem?_eq_getElem h, List.getElem?_drop, h3]
            have HUat := Lib.hid hUat
            rw [hU] at HX2
            have HU := Lib.hid hU
            clear hU hUat HNo hoff
            go_wp2_with fail
            go_loopw [8, 10] (fun k j wx => ∃ p q : Nat, k = .int .i64 (p : Int) ∧ j = .int .i64 (q : Int) ∧ q ≤ sz ∧ q ≤ U.length ∧ p = m + q ∧ Hid (St w wx pm pr (T ++ [partF ty sz U q]) (T ++ [partF ty sz U q]) ∧ wx.heap[bn]? = some (.cells namesC 58 (0, 0)))) (fun _ j _ => sz - (intOf j).toNat)
            case atStart => exact ⟨m, 0, rfl, rfl, by omega, by omega, by omega, HX2⟩
            case round =>
              clear HX2
              obtain ⟨p, q, rfl, rfl, hq, hqU, hp, HI⟩ := hrel
              obtain ⟨d1, d2⟩ := names_cell n hlt
              have c2 := bx_cell HI.out.2 _ _ d2
              rw [hzz] at c2
              clear d1 d2
              have hend : (q = sz ∨ q = U.length) → p = min (offF (n + 1)) vs.length ∧ T ++ [partF ty sz U q] = rowsAt vs (n + 1) := by
                intro h
                have h1 := off_succ n hlt
                have h2 := HMm.out
                have h3 := HU.out
                have h4 : U.length = vs.length - offF n := by rw [← h3, List.length_drop]
                refine ⟨by omega, ?_⟩
                rw [part_end ty sz U q hq hqU h, rows_succ vs n hlt, HT.out, hty, hsz, h3]
              have hpp := Lib.hid hp
              by_cases hqs : q < sz
              · by_cases hqu : q < U.length
                · have hpl : p < vs.length := by omega
                  have HVx := Lib.hid (fun w' (hk : Kept w w') => HV.out.at hk hpl)
                  obtain ⟨x, rfl, r1, r2, -⟩ := HV.out.at HI.out.1.keep0 hpl
                  obtain ⟨y, hy⟩ : ∃ y, vs[p] = y := ⟨_, rfl⟩
                  have HC : Hid (∀ w', Kept w w' → w'.cell? (x.add p) = some (.int .i64 y)) := Lib.hid fun w' hk => by
                    obtain ⟨x', e, -, -, h⟩ := HVx.out w' hk
                    injection e with e
                    subst e
                    rw [hy] at h
                    exact h
                  have c3 := HC.out _ HI.out.1.keep0
                  clear HVx
                  have hUy : U[q] = y := by
                    have := (HUat.out q hqu).2
                    rw [← hp, List.getElem?_eq_getElem hpl, hy] at this
                    injection this with this
                    exact this.symm
                  have HA := Lib.hid (st_set HI.out.1 (n : Int) (q : Int) y)
                  have hst := part_step ty sz U q T y hqs hqu hUy
                  rw [HTl.out] at hst
                  rw [hst] at HA
                  have HST := Lib.hid hst
                  simp only [maxLen] at r2
                  clear hst hend hUy hy hp
                  go_upto_region 15 with (go_at_call 15; refine HA.out.mono ?_; rintro e w3 ⟨rfl, H3⟩; have c3' := HC.out _ H3.out.1.keep0)
                  have HB := Lib.hid (st_rset H3.out.1 (n : Int) (q : Int) y)
                  rw [HST.out] at HB
                  clear c3
                  go_wp2_with (go_at_call 20; refine HB.out.mono ?_; rintro e w4 ⟨rfl, H4⟩)
                  go_roundw
                  case rel => exact ⟨p + 1, q + 1, by go_num, by go_num, by omega, by omega, by have := hpp.out; omega, Lib.hid ⟨H4.out.1, H4.out.2 _ _ _ (by decide) (by decide) (by decide) (by decide) (H3.out.2 _ _ _ (by decide) (by decide) (by decide) (by decide) HI.out.2)⟩⟩
                  case measure => simp [intOf]; omega
                · have hpl : p = vs.length := by omega
                  obtain ⟨e1, e2⟩ := hend (.inr (by omega))
                  rw [e2] at HI
                  clear hp
                  go_wp2
                  go_meet
                  exact ⟨by rw [← e1], HI⟩
              · obtain ⟨e1, e2⟩ := hend (.inl (by omega))
                have hqz : q = sz := by omega
                rw [e2] at HI
                have HE := Lib.hid e1
                clear e1 e2 hend hp
                go_wp2
                go_meet
                exact ⟨by rw [← HE.out], HI⟩
      case rest =>
        obtain ⟨rfl, HX3⟩ := hcut
        clear HA HNo c1 c2 HI HMm
        go_wp2
        go_roundw
        case rel => exact ⟨n + 1, _, rfl, by go_num, by omega, rfl, HX3⟩
        case measure => simp [intOf]; omega
    · obtain rfl : n = 4 := by omega
      go_wp2
      simp [bodyPost, results, Try.f7, go_sem]
      exact ⟨pm, pr, ⟨rfl, rfl⟩, Lib.hid HI.out.1⟩
end Go.Proofs.Ythjnkjekidagiaa.Evl
namespace Go.Proofs.Ythjnkjekidagiaa.Wch
open Go.RowKit
open Mem

set_option maxRecDepth 100000 in
set_option maxHeartbeats 4000000 in
theorem clauses_none (k : Int) (env : Value) (w : World) (he : env = .agg #[.pointer none, .slice none 0 0, .pointer none, .slice none 0 0, .int .i64 0, .int .i64 0]) : Calls Try.prog 17 #[.slice none 0 0, .int .i64 k, env] w fun e w' => e = .returned (.tuple #[.slice none 0 0, .bool true]) ∧ Kept w w' := by
  subst he
  go_enter Try.func17, Try.ntmps17
  go_wp2
  go_step3
  go_wp2
  go_step3
  go_wp2
  refine wp_loop_rounds 1 ?_
  rw [rounds_succ]
  go_wp2
  rw [Exit.noGoto_ret]
  go_ret2
  exact ⟨rfl, (Kept.refl w).alloc _⟩
set_option maxRecDepth 100000 in
set_option maxHeartbeats 4000000 in
theorem awake_any (w : World) : Calls Try.prog 6 #[] w fun e w' => e = .returned (.bool true) ∧ Hid (Kept w w') := by
  go_enter Try.func6, Try.ntmps6
  go_wp2_with (go_at_call 17; refine (clauses_none _ _ _ rfl).mono ?_; rintro e w1 ⟨rfl, k1⟩; have K1 := Lib.hid k1; clear k1)
  go_ret
  exact ⟨rfl, K1⟩
theorem small_fill : ∀ (l : List (Int × Nat)) (u : List Int), (∀ x ∈ l, x.2 ≤ 16) → Small (Evl.fillF l u)
  | [], _, _ => Small.nil
  | x :: r, u, h => by
    intro y hy
    unfold Evl.fillF at hy
    rcases List.mem_cons.1 hy with rfl | hy
    · have h1 := h x (List.mem_cons_self ..)
      show ((u.take x.2).map (Typ.wrapF x.1) ++ List.replicate (x.2 - u.length) 0).length ≤ 16
      rw [List.length_append, List.length_map, List.length_take, List.length_replicate]
      omega
    · exact small_fill r _ (fun z hz => h z (List.mem_cons_of_mem _ hz)) y hy
theorem small_both (u : List Int) : Small (Evl.bothF u) := small_fill _ _ (by decide)
theorem both_len (u : List Int) : (Evl.bothF u).length = 4 := rfl
end Go.Proofs.Ythjnkjekidagiaa.Wch
