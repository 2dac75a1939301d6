/-
  Package watch: set (a list of numbers as a set), slices.Equal at []int, differs (are two memories' blocks of one Id unlike?).
  Package watch: slices.Equal at []int, differs (are two memories' blocks of one Id unlike?).
  Package watch: Changed (the first of ids, none of may, whose block is another one now).
  The document's answer for package watch: Changed.
  Statements of layer 9: awake; two memories that are made and cut.
  Package watch: check (an event), Clauses (clauses in order, up to the first that does not hold).
  Statements of layer 9: lists of clauses that are made; what the texts of WatchStops are read as, and what Clauses tells of them.
-/
import Derived.Test.YthjnkjekidagiaaMemTop
import Derived.Maps.OwnSet
import Derived.Deep.RegionHeld3
import Derived.Deep.CutBlock
import Derived.Deep.CutRange
import Derived.Deep.LoopGhost
import Derived.Test.YthjnkjekidagiaaStEv
import Derived.Deep.AppendLies
namespace Go.Proofs.Ythjnkjekidagiaa.Wch
open Go.RowKit Go.Maps
open Mem

/-- A list of numbers in memory. -/
def IntsAt (w : World) (v : Value) (l : List Int) : Prop :=
  (v = .slice none 0 0 ∧ l = []) ∨ ∃ (x : Addr) (c : Nat), v = .slice (some x) l.length c ∧ l.length ≤ c ∧ c ≤ maxLen ∧ ∀ j (h : j < l.length), (x.add j).block < w.heap.size ∧ w.cell? (x.add j) = some (.int .i64 l[j]) ∧ (Lit.int .i64 l[j]).wf = true
theorem IntsAt.form {w : World} {v : Value} {l : List Int} (h : IntsAt w v l) : ∃ a c, v = .slice a l.length c := by
  rcases h with ⟨h1, h2⟩ | ⟨x, c, h1, _⟩
  · exact ⟨none, 0, by rw [h1, h2]; rfl⟩
  · exact ⟨_, _, h1⟩
theorem IntsAt.kept {w w' : World} {v : Value} {l : List Int} (h : IntsAt w v l) (hk : Kept w w') : IntsAt w' v l := by
  rcases h with h | ⟨x, c, h1, h2, h3, h4⟩
  · exact .inl h
  · exact .inr ⟨x, c, h1, h2, h3, fun j hj => ⟨Nat.lt_of_lt_of_le (h4 j hj).1 hk.size, (World.cell?_of_block (a := x.add j) (hk.block (x.add j).block (h4 j hj).1)).trans (h4 j hj).2.1, (h4 j hj).2.2⟩⟩
theorem IntsAt.at {w : World} {a : Option Addr} {c n : Nat} {l : List Int} (h : IntsAt w (.slice a n c) l) {j : Nat} (hj : j < l.length) : ∃ x, a = some x ∧ l.length ≤ c ∧ c ≤ maxLen ∧ w.cell? (x.add j) = some (.int .i64 l[j]) ∧ (Lit.int .i64 l[j]).wf = true := by
  rcases h with ⟨h1, h2⟩ | ⟨x, c', h1, h2, h3, h5⟩
  · subst h2; simp at hj
  · injection h1 with e1 e2 e3
    subst e1 e3
    exact ⟨x, rfl, h2, h3, (h5 j hj).2⟩
theorem IntsAt.len {w : World} {a : Option Addr} {c n : Nat} {l : List Int} (h : IntsAt w (.slice a n c) l) : n = l.length := by
  rcases h with ⟨h1, h2⟩ | ⟨x, c', h1, _⟩
  · injection h1 with _ h1; rw [h2, h1]; rfl
  · injection h1
theorem ints_nil (w : World) : IntsAt w (.slice none 0 0) [] := .inl ⟨rfl, rfl⟩

theorem key_law : Keyed Try.prog 3 := int_keyed Try.underlying3
theorem unit_zero (w : World) : (zeroValue 67).run Try.prog w = .ok (.agg #[]) w := by kernel_rfl
theorem run_makeMap_hint (n : Int) (w : World) : (Instr.makeMap 65 (some (.int .i64 n))).run Try.prog w = .ok (.map (some w.heap.size)) (w.alloc (.map #[] 0)) := by
  simp [Instr.makeMap, run_underlying Try.underlying65, asInt, asIntOf, Result.andThen]
/-- The set of a list's first k numbers. -/
def setD (l : List Int) (k : Nat) : DataW Unit := setOf (.agg []) ((l.take k).map (Lit.int .i64))
theorem any_int (x : Int) : ∀ l : List Int, l.any ((fun y : Lit => y.sameKey (.int .i64 x)) ∘ Lit.int .i64) = l.contains x
  | [] => rfl
  | a :: r => by
    rw [List.any_cons, List.contains_cons, any_int x r]
    congr 1
    show decide (IntKind.i64 = IntKind.i64 ∧ a = x) = (x == a)
    by_cases e : a = x
    · subst e; simp
    · have e' : ¬ x = a := fun h => e h.symm
      simp [e, e']
theorem has_setD (l : List Int) (k : Nat) (x : Int) : Maps.has (setD l k) (.int .i64 x) = (l.take k).contains x := by
  unfold setD
  rw [has_setOf _ _ _ (fun y hy => by obtain ⟨_, _, rfl⟩ := List.mem_map.1 hy; trivial), List.any_map]
  exact any_int x _
theorem setD_zero (l : List Int) : setD l 0 = .map [] := rfl
theorem setD_succ (l : List Int) {k : Nat} (hk : k < l.length) : setD l (k + 1) = (setD l k).put (.int .i64 l[k]) (.agg []) := by
  unfold setD
  rw [List.take_succ_eq_append_getElem hk, List.map_append, List.map_singleton, setOf_snoc]
/-- The set of a list, in memory. -/
def SetAt (w : World) (b : Nat) (l : List Int) : Prop := w.ownsMap Try.prog 3 unitElem b l.length (setD l l.length)
theorem SetAt.kept {w w' : World} {b : Nat} {l : List Int} (h : SetAt w b l) (hk : Kept w w') (hb : b < w.heap.size) : SetAt w' b l := by
  obtain ⟨es, clock, h1, h2⟩ := h
  exact ⟨es, clock, (hk.block b hb).trans h1, h2⟩

set_option maxRecDepth 100000 in
set_option maxHeartbeats 4000000 in
theorem set_any' (w : World) (v : Value) (l : List Int) (hv : IntsAt w v l) : Calls Try.prog 23 #[v] w fun e w' => ∃ b, e = .returned (.map (some b)) ∧ Hid (Kept w w' ∧ w.heap.size ≤ b ∧ b < w'.heap.size ∧ SetAt w' b l) := by
  have hmm := run_makeMap_hint
  obtain ⟨a, c, rfl⟩ := hv.form
  have HV := Lib.hid hv
  have hlm : l.length ≤ maxLen := by
    rcases hv with ⟨_, h2⟩ | ⟨x, c, _, h2, h3, _⟩
    · subst h2; simp [maxLen]
    · omega
  have hlm' : l.length ≤ 9223372036854775807 := by simp only [maxLen] at hlm; omega
  clear hv
  go_enter Try.func23, Try.ntmps23
  go_wp2
  go_loopw [11] (fun i wr => ∃ k : Nat, k ≤ l.length ∧ i = .int .i64 k ∧ Hid (wr.ownsMap Try.prog 3 unitElem w.heap.size k (setD l k) ∧ Kept w wr ∧ w.heap.size < wr.heap.size)) (fun i _ => l.length - (intOf i).toNat)
  case atStart => exact ⟨0, Nat.zero_le _, rfl, Lib.hid ⟨by rw [setD_zero]; exact World.ownsMap_made _ _ _ _, (Kept.refl w).alloc _, by simp⟩⟩
  case round =>
    obtain ⟨k, hk, rfl, HO⟩ := hrel
    by_cases hlt : k < l.length
    case neg =>
      obtain rfl : k = l.length := by omega
      go_wp2
      go_ret
      exact ⟨_, rfl, Lib.hid ⟨HO.out.2.1, Nat.le_refl _, HO.out.2.2, HO.out.1⟩⟩
    obtain ⟨x, rfl, b1, b2, c1, wf⟩ := (HV.out.kept HO.out.2.1).at hlt
    have hkey : keyOf Try.prog 3 (.int .i64 l[k]) = some (.int .i64 l[k]) := keyOf_int_mk Try.underlying3 wf
    have hkm : k < maxLen := by omega
    have hown := HO.out.1
    have HS := Lib.hid (setD_succ l hlt)
    have HK := Lib.hid HO.out.2
    clear HO HV wf hlm
    generalize l[k] = n at *
    simp only [maxLen] at b2
    go_wp2_with (first
      | (at_mapUpdate; refine wpList_mapUpdate_own _ rfl _ _ _ 65 rfl 3 67 key_law Try.underlying65 (unitElem (H := Unit)) w.heap.size k _ rfl hown hkm _ _ _ rfl rfl hkey _ [] unitElem_mk ?_; intro w1 hown1 hgrow1)
      | go_in)
    have s1 := hgrow1.size
    refine ⟨⟨k + 1, by omega, by simp, Lib.hid ⟨by rw [HS.out]; exact hown1, Below.grown HK.out.1 hgrow1 (by have := HK.out.1.size; omega) (fun j hj => by cases hj; exact Nat.le_refl _), by have := HK.out.2; omega⟩⟩, by simp [intOf]; omega⟩
end Go.Proofs.Ythjnkjekidagiaa.Wch
namespace Go.Proofs.Ythjnkjekidagiaa.Wch
open Go.RowKit
open Mem

set_option maxHeartbeats 2000000 in
theorem equal_any (w : World) {B C : Nat} {v u : Value} {l m : List Int} (h1 : w.ownsRow B 3 1 v l.length (ints l)) (h2 : w.ownsRow C 3 1 u m.length (ints m)) :
    Calls Try.prog 38 #[v, u] w fun e w' => e = .returned (.bool (l == m)) ∧ ∃ n, w' = w.drewN n := by
  by_cases hl : l.length = m.length
  case neg =>
    have e0 : (l == m) = false := by rw [beq_eq_false_iff_ne]; intro e; exact hl (by rw [e])
    rw [e0]
    obtain ⟨a, c, rfl⟩ : ∃ a c, v = .slice a l.length c := by
      rcases row_cells h1 with ⟨rfl, rfl⟩ | ⟨g, c, rfl, _⟩
      · exact ⟨_, _, rfl⟩
      · exact ⟨_, _, rfl⟩
    obtain ⟨b, d, rfl⟩ : ∃ a c, u = .slice a m.length c := by
      rcases row_cells h2 with ⟨rfl, rfl⟩ | ⟨g, c, rfl, _⟩
      · exact ⟨_, _, rfl⟩
      · exact ⟨_, _, rfl⟩
    have hl' : ((l.length : Int) != (m.length : Int)) = true := by rw [bne_iff_ne]; omega
    clear h1 h2 e0
    go_enter Try.func38, Try.ntmps38
    go_wp2
    go_ret
    exact ⟨rfl, 0, rfl⟩
  obtain ⟨a, c, rfl, hv⟩ : ∃ a c, v = .slice a l.length c ∧ ∀ j (hj : j < l.length), ∃ g, a = some ⟨g, 0, none⟩ ∧ l.length ≤ c ∧ c ≤ maxLen ∧ w.cell? ⟨g, j, none⟩ = some (.int .i64 l[j]) := by
    rcases row_cells h1 with ⟨rfl, rfl⟩ | ⟨g, c, rfl, h3, h4, h5⟩
    · exact ⟨_, _, rfl, fun j hj => absurd hj (by simp)⟩
    · exact ⟨_, _, rfl, fun j hj => ⟨g, rfl, h3, h4, h5 j hj⟩⟩
  obtain ⟨b, d, rfl, hu⟩ : ∃ a c, u = .slice a m.length c ∧ ∀ j (hj : j < m.length), ∃ g, a = some ⟨g, 0, none⟩ ∧ m.length ≤ c ∧ c ≤ maxLen ∧ w.cell? ⟨g, j, none⟩ = some (.int .i64 m[j]) := by
    rcases row_cells h2 with ⟨rfl, rfl⟩ | ⟨g, c, rfl, h3, h4, h5⟩
    · exact ⟨_, _, rfl, fun j hj => absurd hj (by simp)⟩
    · exact ⟨_, _, rfl, fun j hj => ⟨g, rfl, h3, h4, h5 j hj⟩⟩
  have Hv := Lib.hid hv
  have Hu := Lib.hid hu
  have hl' : ((l.length : Int) != (m.length : Int)) = false := by simp [hl]
  clear h1 h2 hv hu
  go_enter Try.func38, Try.ntmps38
  go_wp2
  go_loopw [13] (fun i wx => ∃ k n : Nat, k ≤ l.length ∧ i = .int .i64 k ∧ wx = w.drewN n ∧ Hid (l.take k = m.take k)) (fun i _ => l.length - (intOf i).toNat)
  case atStart => exact ⟨0, 0, by omega, rfl, rfl, Lib.hid rfl⟩
  case round =>
    obtain ⟨k, n, hk, rfl, rfl, Ht⟩ := hrel
    by_cases hk' : k < l.length
    case neg =>
      have e0 : (l == m) = true := by
        have := Ht.out
        rw [List.take_of_length_le (by omega), List.take_of_length_le (by omega)] at this
        rw [beq_iff_eq]; exact this
      go_wp2
      go_ret
      exact ⟨ret_bool e0.symm, n, rfl⟩
    have hkm : k < m.length := by omega
    obtain ⟨g, rfl, b1, b2, c1⟩ := Hv.out k hk'
    obtain ⟨g', rfl, b3, b4, c2⟩ := Hu.out k hkm
    simp only [maxLen] at b2 b4
    clear Hv Hu
    by_cases he : l[k] = m[k]
    · have He : Hid (l.take (k + 1) = m.take (k + 1)) := Lib.hid (take_succ hk' hkm Ht.out he)
      rw [← he] at c2
      generalize l[k] = x at c1 c2
      clear he
      go_wp2
      go_quiet (fail)
      go_wp2
      exact ⟨⟨k + 1, n + nq, by omega, by simp, rfl, He⟩, by simp [intOf]; omega⟩
    · have e0 := take_ne hk' hkm he
      have he' : (l[k] != m[k]) = true := by rw [bne_iff_ne]; exact he
      generalize l[k] = x at c1 he'
      generalize m[k] = y at c2 he'
      clear he
      go_wp2
      go_quiet (fail)
      go_wp2
      go_ret
      exact ⟨ret_bool e0.symm, n + nq, by rw [World.drewN_drewN]⟩

/-- Are two memories' blocks of one Id unlike? -/
def difR (T U : List Row) (id : Int) : Bool := blkR T id != blkR U id
theorem row_form {w : World} {B : Nat} {v : Value} {l : List Int} (h : w.ownsRow B 3 1 v l.length (ints l)) : ∃ a c, v = .slice a l.length c := by
  rcases row_cells h with ⟨rfl, rfl⟩ | ⟨g, c, rfl, _⟩
  · exact ⟨_, _, rfl⟩
  · exact ⟨_, _, rfl⟩
theorem own_kept {w w' : World} {B : Nat} {v : Value} {l : List Int} (h : w.ownsRow B 3 1 v l.length (ints l)) (hk : Kept w w') : w'.ownsRow B 3 1 v l.length (ints l) :=
  own_chg (S := fun _ => False) h (Chg.of_kept hk) (fun _ _ => id)
theorem box2 {w w' : World} {a b : Value} {t : TypeId} (hk : Kept (w.alloc (.cells #[a, b] t)) w') : w'.cell? ⟨w.heap.size, 0, none⟩ = some a ∧ w'.cell? ⟨w.heap.size, 1, none⟩ = some b := by
  have h := Kept.heap hk (heap_alloc_new w (.cells #[a, b] t))
  exact ⟨box_cell h 0 _ rfl, box_cell h 1 _ rfl⟩
set_option maxRecDepth 100000 in
set_option maxHeartbeats 4000000 in
theorem differs_any {B C : Nat} {w : World} {p q : Nat} {v u : Value} {L K : List Bk} {T U : List Row} (h : MemAt B 64 w p v L) (hT : L.map tv = T) (hS : Small T) (h' : MemAt C 64 w q u K) (hU : K.map tv = U) (hS' : Small U) (id : Int) :
    Calls Try.prog 24 #[.pointer (some ⟨p, 0, none⟩), .pointer (some ⟨q, 0, none⟩), .int .i64 id] w fun e w' => e = .returned (.bool (difR T U id)) ∧ Kept w w' := by
  obtain ⟨b1, t1, l1, e1⟩ : ∃ b t l, blkR T id = (b, t, l) := ⟨_, _, _, rfl⟩
  obtain ⟨b2, t2, l2, e2⟩ : ∃ b t l, blkR U id = (b, t, l) := ⟨_, _, _, rfl⟩
  have HB := Lib.hid (block_rows h hT hS e1)
  have HC := Lib.hid (fun W (hk : Kept w W) => block_rows (h'.kept hk) hU hS' e2)
  have ed : difR T U id = ((b1, t1, l1) != (b2, t2, l2)) := by unfold difR; rw [e1, e2]
  rw [ed]
  generalize hr : ((b1, t1, l1) != (b2, t2, l2)) = r
  have HR := Lib.hid hr
  clear h h' hS hS' hT hU e1 e2 ed hr
  go_enter Try.func24, Try.ntmps24
  go_upto_region 1 with fail
  go_upto_region 2 with (go_at_call 37; refine (HB.out).mono ?_; rintro e w1 ⟨v1, rfl, H1⟩; obtain ⟨a1, c1, rfl⟩ := row_form H1.out.2)
  have K1 := Lib.hid (H1.out.1.alloc (.cells #[.int .i64 t1, .slice a1 l1.length c1] 62))
  have R1 := Lib.hid (own_kept H1.out.2 ((Kept.refl w1).alloc (.cells #[.int .i64 t1, .slice a1 l1.length c1] 62)))
  have B1 := Lib.hid (fun w' hk => box2 (w := w1) (w' := w') (a := .int .i64 t1) (b := .slice a1 l1.length c1) (t := 62) hk)
  clear H1 HB
  generalize w1.alloc (.cells #[.int .i64 t1, .slice a1 l1.length c1] 62) = W1 at *
  generalize w1.heap.size = g1 at *
  go_upto_region 3 with (go_at_call 37; refine (HC.out _ K1.out).mono ?_; rintro e w2 ⟨v2, rfl, H2⟩; obtain ⟨a2, c2, rfl⟩ := row_form H2.out.2)
  have k2 := H2.out.1.alloc (.cells #[.int .i64 t2, .slice a2 l2.length c2] 62)
  have K2 := Lib.hid (K1.out.trans k2)
  have R2 := Lib.hid (own_kept H2.out.2 ((Kept.refl w2).alloc (.cells #[.int .i64 t2, .slice a2 l2.length c2] 62)))
  have R1' := Lib.hid (own_kept R1.out k2)
  obtain ⟨x0, x1⟩ := B1.out _ k2
  obtain ⟨y0, y1⟩ := box2 (w := w2) (a := .int .i64 t2) (b := .slice a2 l2.length c2) (t := 62) (Kept.refl _)
  clear H2 HC R1 B1 K1 k2
  generalize w2.alloc (.cells #[.int .i64 t2, .slice a2 l2.length c2] 62) = W2 at *
  generalize w2.heap.size = g2 at *
  have HE := Lib.hid (equal_any W2 R1'.out R2.out)
  clear R1' R2
  generalize hn1 : l1.length = n1 at *
  generalize hn2 : l2.length = n2 at *
  by_cases hb : b1 = b2
  case neg =>
    have e0 : r = true := by rw [← HR.out, bne_iff_ne]; intro e; injection e with e; exact hb e
    subst e0
    clear hn1 hn2 HR
    cases b1 <;> cases b2 <;> first | exact absurd rfl hb | clear hb
    all_goals
      go_wp2
      go_ret
      exact ⟨rfl, K2.out⟩
  subst hb
  have e1 : (b1 != b1) = false := by simp
  by_cases ht : t1 = t2
  case neg =>
    have e0 : r = true := by rw [← HR.out, bne_iff_ne]; intro e; injection e with e e'; injection e' with e'; exact ht e'
    subst e0
    have e2 : (t1 != t2) = true := by rw [bne_iff_ne]; exact ht
    clear ht hn1 hn2 HR
    go_wp2
    go_ret
    exact ⟨rfl, K2.out⟩
  subst ht
  have e2 : (t1 != t1) = false := by simp
  have e0 : r = !(l1 == l2) := by
    rw [← HR.out]
    by_cases e : l1 = l2
    · subst e; simp
    · have h1 : (l1 == l2) = false := by rw [beq_eq_false_iff_ne]; exact e
      rw [h1, Bool.not_false, bne_iff_ne]; intro e'; injection e' with _ e'; injection e' with _ e'; exact e e'
  obtain ⟨eq, he⟩ : ∃ eq, (l1 == l2) = eq := ⟨_, rfl⟩
  rw [he] at HE e0
  have E0 := Lib.hid e0
  clear hn1 hn2 HR he e0
  go_wp2_with (go_at_call 38; refine (HE.out).mono ?_; rintro e w3 ⟨rfl, n3, rfl⟩)
  go_ret
  exact ⟨ret_bool E0.out.symm, K2.out.drewN _⟩
end Go.Proofs.Ythjnkjekidagiaa.Wch
namespace Go.Proofs.Ythjnkjekidagiaa.Wch
open Go.RowKit Go.Maps
open Mem

/-- The first of a list that is none of may, and of which D says so. -/
def chgR (D : Int → Bool) (may : List Int) : List Int → Int
  | [] => -1
  | i :: r => if may.contains i = false ∧ D i = true then i else chgR D may r
theorem chg_end (D : Int → Bool) (may l : List Int) {k : Nat} (h : l.length ≤ k) : chgR D may (l.drop k) = -1 := by rw [List.drop_of_length_le h]; rfl
theorem chg_hit {D : Int → Bool} {may l : List Int} {k : Nat} (hk : k < l.length) (h1 : may.contains l[k] = false) (h2 : D l[k] = true) : chgR D may (l.drop k) = l[k] := by
  rw [List.drop_eq_getElem_cons hk]; unfold chgR; rw [if_pos ⟨h1, h2⟩]
theorem chg_miss {D : Int → Bool} {may l : List Int} {k : Nat} (hk : k < l.length) (h : may.contains l[k] = true ∨ D l[k] = false) : chgR D may (l.drop k) = chgR D may (l.drop (k + 1)) := by
  rw [List.drop_eq_getElem_cons hk]; conv => lhs; unfold chgR
  rw [if_neg]
  rintro ⟨h1, h2⟩
  rcases h with h | h
  · rw [h1] at h; cases h
  · rw [h2] at h; cases h

set_option maxRecDepth 100000 in
set_option maxHeartbeats 4000000 in
theorem changed_any {B C : Nat} {w : World} {p q : Nat} {v u vi vm : Value} {L K : List Bk} {T U : List Row} {ids may : List Int} (h : MemAt B 64 w p v L) (hT : L.map tv = T) (hS : Small T) (h' : MemAt C 64 w q u K) (hU : K.map tv = U) (hS' : Small U) (hi : IntsAt w vi ids) (hm : IntsAt w vm may) :
    Calls Try.prog 10 #[.pointer (some ⟨p, 0, none⟩), .pointer (some ⟨q, 0, none⟩), vi, vm] w fun e w' => e = .returned (.int .i64 (chgR (difR T U) may ids)) ∧ Kept w w' := by
  obtain ⟨ia, ic, rfl⟩ := hi.form
  obtain ⟨ma, mc, rfl⟩ := hm.form
  have HI := Lib.hid hi
  have hlm : ids.length ≤ 9223372036854775807 := by
    rcases hi with ⟨_, h2⟩ | ⟨x, c, _, h2, h3, _⟩
    · subst h2; simp
    · simp only [maxLen] at h3; omega
  have HS := Lib.hid (set_any' w _ may hm)
  have HD := Lib.hid (fun W (hk : Kept w W) id => differs_any (h.kept hk) hT hS (h'.kept hk) hU hS' id)
  clear h h' hT hS hU hS' hi hm
  generalize hD : difR T U = D at *
  generalize hr : chgR D may ids = r
  have HR := Lib.hid hr
  clear hD hr
  go_enter Try.func10, Try.ntmps10
  go_wp2
  go_step3
  go_wp2_with (go_at_call 23; refine (HS.out).mono ?_; rintro e w1 ⟨b, rfl, H1⟩)
  go_step3
  go_wp2
  go_loopw [9, 19] (fun f i wr => ∃ k : Nat, f = .int .i64 (-1) ∧ k ≤ ids.length ∧ i = .int .i64 k ∧ Hid (Kept w wr ∧ Kept w1 wr ∧ chgR D may (ids.drop k) = r)) (fun _ i _ => ids.length - (intOf i).toNat)
  case atStart => exact ⟨0, rfl, Nat.zero_le _, rfl, Lib.hid ⟨H1.out.1, Kept.refl _, HR.out⟩⟩
  case round =>
    obtain ⟨k, rfl, hk, rfl, HK⟩ := hrel
    by_cases hlt : k < ids.length
    case neg =>
      have e := HK.out.2.2
      rw [chg_end D may ids (by omega)] at e
      subst e
      have K9 := Lib.hid HK.out.1
      clear HI HS HD H1 HR HK
      go_wp2
      rw [Exit.noGoto_ret]
      go_ret
      exact ⟨rfl, K9.out⟩
    obtain ⟨x, rfl, b1, b2, c1, wf⟩ := (HI.out.kept HK.out.1).at hlt
    have hkey : keyOf Try.prog 3 (.int .i64 ids[k]) = some (.int .i64 ids[k]) := keyOf_int_mk Try.underlying3 wf
    have hown : SetAt wr b may := H1.out.2.2.2.kept HK.out.2.1 H1.out.2.2.1
    unfold SetAt at hown
    have HH := Lib.hid (has_setD may may.length ids[k])
    have HD1 := Lib.hid (HD.out _ ((HK.out.1.alloc (.cells #[] 67))) ids[k])
    have H1' := Lib.hid (fun h1 h2 => (chg_hit (D := D) (may := may) hlt h1 h2).symm.trans HK.out.2.2)
    have H2' := Lib.hid (fun h => (chg_miss (D := D) (may := may) hlt h).symm.trans HK.out.2.2)
    rw [List.take_of_length_le (Nat.le_refl _)] at HH
    clear HI HS HD HR wf
    generalize ids[k] = n at *
    simp only [maxLen] at b2
    cases hc : may.contains n
    case' true =>
      rw [hc] at HH
      have HN := Lib.hid (H2'.out (.inl hc))
      clear hc HD1
      go_wp2_with (at_lookup; refine wpList_lookup_own_unit _ rfl _ _ 65 rfl 3 67 key_law Try.underlying65 (unit_zero _) b may.length _ rfl hown _ _ rfl hkey ?_; rw [HH.out])
      exact ⟨⟨k + 1, rfl, by omega, by simp, Lib.hid ⟨HK.out.1.alloc _, HK.out.2.1.alloc _, HN.out⟩⟩, by simp [intOf]; omega⟩
    case' false =>
      rw [hc] at HH
      cases hd : D n
      case' true =>
        rw [hd] at HD1
        have HN := Lib.hid (H1'.out hc hd)
        clear hc hd
        go_wp2_with (first | (at_lookup; refine wpList_lookup_own_unit _ rfl _ _ 65 rfl 3 67 key_law Try.underlying65 (unit_zero _) b may.length _ rfl hown _ _ rfl hkey ?_; rw [HH.out]) | (go_at_call 24; refine (HD1.out).mono ?_; rintro e w2 ⟨rfl, k2⟩; have K2 := Lib.hid (HK.out.1.alloc (.cells #[] 67) |>.trans k2); clear k2))
        rw [Exit.noGoto_ret]
        go_ret
        exact ⟨by rw [HN.out]; rfl, K2.out⟩
      case' false =>
        rw [hd] at HD1
        have HN := Lib.hid (H2'.out (.inr hd))
        clear hc hd
        go_wp2_with (first | (at_lookup; refine wpList_lookup_own_unit _ rfl _ _ 65 rfl 3 67 key_law Try.underlying65 (unit_zero _) b may.length _ rfl hown _ _ rfl hkey ?_; rw [HH.out]) | (go_at_call 24; refine (HD1.out).mono ?_; rintro e w2 ⟨rfl, k2⟩; have K2 := Lib.hid (And.intro ((HK.out.1.alloc (.cells #[] 67)).trans k2) ((HK.out.2.1.alloc (.cells #[] 67)).trans k2)); clear k2))
        exact ⟨⟨k + 1, rfl, by omega, by simp, Lib.hid ⟨K2.out.1, K2.out.2, HN.out⟩⟩, by simp [intOf]; omega⟩
end Go.Proofs.Ythjnkjekidagiaa.Wch
namespace Go.Proofs.Ythjnkjekidagiaa.Wch
open Go.RowKit
open Mem

theorem mem_take_succ {l : List Int} {k : Nat} (hk : k < l.length) (n : Int) : (l.take (k + 1)).contains n = ((l.take k).contains n || l[k] == n) := by
  rw [List.take_succ_eq_append_getElem hk, List.contains_append, List.contains_cons, List.contains_nil, Bool.or_false, BEq.comm (a := n)]
theorem blk_none {T : List Row} {id t : Int} {l : List Int} (h : blkR T id = (false, t, l)) : t = 0 ∧ l = [] := by
  unfold blkR at h
  split at h
  · split at h
    · simp at h
    · simp at h; exact ⟨h.1.symm, h.2⟩
  · simp at h; exact ⟨h.1.symm, h.2⟩

set_option maxRecDepth 100000 in
set_option maxHeartbeats 4000000 in
theorem rchanged_any {B C : Nat} {w : World} {p q : Nat} {v u vi vm : Value} {L K : List Bk} {T U : List Row} {ids may : List Int} (h : MemAt B 55 w p v L) (hT : L.map tv = T) (hS : Small T) (h' : MemAt C 55 w q u K) (hU : K.map tv = U) (hS' : Small U) (hi : IntsAt w vi ids) (hm : IntsAt w vm may) :
    Calls Try.prog 11 #[.pointer (some ⟨p, 0, none⟩), .pointer (some ⟨q, 0, none⟩), vi, vm] w fun e w' => e = .returned (.int .i64 (chgR (difR T U) may ids)) ∧ Kept w w' := by
  obtain ⟨ia, ic, rfl⟩ := hi.form
  obtain ⟨ma, mc, rfl⟩ := hm.form
  have HI := Lib.hid hi
  have HM := Lib.hid hm
  have hl : ∀ {v : Value} {l : List Int}, IntsAt w v l → l.length ≤ 9223372036854775807 := by
    rintro v l (⟨_, h2⟩ | ⟨x, c, _, h2, h3, _⟩)
    · subst h2; simp
    · simp only [maxLen] at h3; omega
  have hlm := hl hi
  have hlm' := hl hm
  have HB := Lib.hid (fun W (hk : Kept w W) (id : Int) (b : Bool) (t : Int) (l : List Int) (hb : blkR T id = (b, t, l)) => rblock_rows (h.kept hk) hT hS hb)
  have HC := Lib.hid (fun W (hk : Kept w W) (id : Int) (b : Bool) (t : Int) (l : List Int) (hb : blkR U id = (b, t, l)) => rblock_rows (h'.kept hk) hU hS' hb)
  clear h h' hT hS hU hS' hi hm hl
  generalize hr : chgR (difR T U) may ids = r
  have HR := Lib.hid hr
  clear hr
  go_enter Try.func11, Try.ntmps11
  go_wp2
  go_loopw [9] (fun i wr => ∃ k : Nat, k ≤ ids.length ∧ i = .int .i64 k ∧ Hid (Kept w wr ∧ chgR (difR T U) may (ids.drop k) = r)) (fun i _ => ids.length - (intOf i).toNat)
  case atStart => exact ⟨0, Nat.zero_le _, rfl, Lib.hid ⟨Kept.refl _, HR.out⟩⟩
  case round =>
    obtain ⟨k, hk, rfl, HK⟩ := hrel
    by_cases hlt : k < ids.length
    case neg =>
      have e := HK.out.2
      rw [chg_end _ may ids (by omega)] at e
      subst e
      have K9 := Lib.hid HK.out.1
      clear HI HB HC HM HR HK
      go_wp2
      go_ret
      exact ⟨rfl, K9.out⟩
    obtain ⟨x, hx, b1, b2, c1, wf⟩ := (HI.out.kept HK.out.1).at hlt
    have HX := Lib.hid (fun W (hk : Kept w W) => (HI.out.kept hk).at hlt)
    subst hx
    have H1' := Lib.hid (fun h1 h2 => (chg_hit (D := difR T U) (may := may) hlt h1 h2).symm.trans HK.out.2)
    have H2' := Lib.hid (fun h => (chg_miss (D := difR T U) (may := may) hlt h).symm.trans HK.out.2)
    clear HR wf
    generalize ids[k] = n at *
    simp only [maxLen] at b2
    rename World => wo
    go_wp2
    go_loopw [10, 11] (fun f i wz => ∃ m : Nat, m ≤ may.length ∧ f = .bool ((may.take m).contains n) ∧ i = .int .i64 m ∧ Hid (Kept wo wz)) (fun _ i _ => may.length - (intOf i).toNat)
    case atStart => exact ⟨0, Nat.zero_le _, rfl, rfl, Lib.hid (Kept.refl _)⟩
    case round =>
      obtain ⟨m, hm, rfl, rfl, HW⟩ := hrel
      have KW := Lib.hid (HK.out.1.trans HW.out)
      obtain ⟨x2, hx2, -, -, c2, -⟩ := HX.out _ KW.out
      injection hx2 with hx2
      subst hx2
      clear c1
      by_cases hlm2 : m < may.length
      case pos =>
        obtain ⟨y, hy, d1, d2, e1, -⟩ := (HM.out.kept KW.out).at hlm2
        subst hy
        have hS := mem_take_succ hlm2 n
        simp only [maxLen] at d2
        cases hf : (may.take m).contains n
        case' true =>
          rw [hf, Bool.true_or] at hS
          have HS' := Lib.hid hS
          clear hf hS HM HI HB HC H1' H2' HX
        case' false =>
          rw [hf, Bool.false_or] at hS
          have HS' := Lib.hid hS
          clear hf hS HM HI HB HC H1' H2' HX
        all_goals
          generalize may[m] = v1 at *
          go_wp2
          go_quiet (fail)
          go_wp2
          exact ⟨⟨m + 1, by omega, by rw [HS'.out], by simp, Lib.hid (HW.out.drewN _)⟩, by simp [intOf]; omega⟩
      case neg =>
        obtain rfl : m = may.length := by omega
        have hfree : (may.take may.length).contains n = may.contains n := by rw [List.take_of_length_le (Nat.le_refl _)]
        rw [hfree]
        obtain ⟨t1, l1, q1, e1⟩ : ∃ t l b, blkR T n = (b, t, l) := ⟨_, _, _, rfl⟩
        obtain ⟨t2, l2, q2, e2⟩ : ∃ t l b, blkR U n = (b, t, l) := ⟨_, _, _, rfl⟩
        have ed : difR T U n = ((q1, t1, l1) != (q2, t2, l2)) := by unfold difR; rw [e1, e2]
        have HB1 := Lib.hid (HB.out _ KW.out n q1 t1 l1 e1)
        have HC1 := Lib.hid (fun W hk => HC.out W hk n q2 t2 l2 e2)
        have HX2 := Lib.hid (fun W hk => HX.out W hk)
        have Z1 := Lib.hid (fun (h : q1 = false) => blk_none (by rw [e1, h]))
        have Z2 := Lib.hid (fun (h : q2 = false) => blk_none (by rw [e2, h]))
        rw [ed] at H1' H2'
        clear HB HC HX e1 e2 ed hfree HM HI
        generalize may.contains n = fr at *
        go_upto_region 10 with (go_at_call 25; refine (HB1.out).mono ?_; rintro e w1 ⟨v1, rfl, H1⟩; obtain ⟨a1, d1, rfl⟩ := row_form H1.out.2)
        have K1 := Lib.hid (H1.out.1.alloc (.cells #[.int .i64 t1, .slice a1 l1.length d1] 62))
        have R1 := Lib.hid (own_kept H1.out.2 ((Kept.refl w1).alloc (.cells #[.int .i64 t1, .slice a1 l1.length d1] 62)))
        have B1 := Lib.hid (fun w' hk => box2 (w := w1) (w' := w') (a := .int .i64 t1) (b := .slice a1 l1.length d1) (t := 62) hk)
        clear H1 HB1 c2
        generalize w1.alloc (.cells #[.int .i64 t1, .slice a1 l1.length d1] 62) = W1 at *
        generalize w1.heap.size = g1 at *
        obtain ⟨x3, hx3, -, -, c3, -⟩ := HX2.out _ (KW.out.trans K1.out)
        injection hx3 with hx3
        subst hx3
        go_upto_region 11 with (go_at_call 25; refine (HC1.out _ (KW.out.trans K1.out)).mono ?_; rintro e w2 ⟨v2, rfl, H2⟩; obtain ⟨a2, d2, rfl⟩ := row_form H2.out.2)
        have k2 := H2.out.1.alloc (.cells #[.int .i64 t2, .slice a2 l2.length d2] 62)
        have K2 := Lib.hid ((KW.out.trans K1.out).trans k2)
        have R2 := Lib.hid (own_kept H2.out.2 ((Kept.refl w2).alloc (.cells #[.int .i64 t2, .slice a2 l2.length d2] 62)))
        have R1' := Lib.hid (own_kept R1.out k2)
        obtain ⟨x0, x1⟩ := B1.out _ k2
        obtain ⟨y0, y1⟩ := box2 (w := w2) (a := .int .i64 t2) (b := .slice a2 l2.length d2) (t := 62) (Kept.refl _)
        clear H2 HC1 R1 B1 K1 k2 c3 KW HW
        generalize w2.alloc (.cells #[.int .i64 t2, .slice a2 l2.length d2] 62) = W2 at *
        generalize w2.heap.size = g2 at *
        have HE := Lib.hid (same_any W2 t1 t2 R1'.out R2.out)
        clear R1' R2
        obtain ⟨x4, hx4, -, -, c4, -⟩ := HX2.out _ K2.out
        injection hx4 with hx4
        subst hx4
        have HL := Lib.hid hlt
        cases fr
        case true =>
          have HF := Lib.hid (H2'.out (.inl rfl))
          clear H1' H2' Z1 Z2 HE HX2 HK
          go_wp2
          exact ⟨⟨k + 1, by omega, by simp, Lib.hid ⟨K2.out, HF.out⟩⟩, by simp [intOf]; omega⟩
        case false =>
          by_cases hb : q1 = q2
          case neg =>
            have hd : ((q1, t1, l1) != (q2, t2, l2)) = true := by rw [bne_iff_ne]; intro e; injection e with e; exact hb e
            have HF := Lib.hid (H1'.out rfl hd)
            clear H1' H2' Z1 Z2 HE HX2 HK hd
            cases q1 <;> cases q2 <;> first | exact absurd rfl hb | clear hb
            all_goals
              go_wp2
              go_ret
              exact ⟨by rw [HF.out]; rfl, K2.out⟩
          case pos =>
            subst hb
            cases q1
            case false =>
              obtain ⟨rfl, rfl⟩ := Z1.out rfl
              obtain ⟨rfl, rfl⟩ := Z2.out rfl
              have HF := Lib.hid (H2'.out (.inr (by simp)))
              clear H1' H2' Z1 Z2 HE HX2 HK
              go_wp2
              exact ⟨⟨k + 1, by omega, by simp, Lib.hid ⟨K2.out, HF.out⟩⟩, by simp [intOf]; omega⟩
            case true =>
              have hd : ((true, t1, l1) != (true, t2, l2)) = !(t1 == t2 && l1 == l2) := by
                by_cases ht : t1 = t2
                · subst ht
                  by_cases hl : l1 = l2
                  · subst hl; simp
                  · have h1 : (l1 == l2) = false := by rw [beq_eq_false_iff_ne]; exact hl
                    rw [h1, Bool.and_false, Bool.not_false, bne_iff_ne]; intro e; injection e with _ e; injection e with _ e; exact hl e
                · have h1 : (t1 == t2) = false := by rw [beq_eq_false_iff_ne]; exact ht
                  rw [h1, Bool.false_and, Bool.not_false, bne_iff_ne]; intro e; injection e with _ e; injection e with e; exact ht e
              cases he : (t1 == t2 && l1 == l2)
              case' true =>
                rw [he] at HE hd
                have HF := Lib.hid (H2'.out (.inr hd))
                clear H1' H2' Z1 Z2 HX2 HK hd he
                go_wp2_with (go_at_call 26; refine (HE.out).mono ?_; rintro e w3 ⟨rfl, k3⟩; have K3 := Lib.hid (K2.out.trans k3); clear k3)
                exact ⟨⟨k + 1, by omega, by simp, Lib.hid ⟨K3.out, HF.out⟩⟩, by simp [intOf]; omega⟩
              case' false =>
                rw [he] at HE hd
                have HF := Lib.hid (H1'.out rfl hd)
                clear H1' H2' Z1 Z2 HK hd he c4
                go_wp2_with (go_at_call 26; refine (HE.out).mono ?_; rintro e w3 ⟨rfl, k3⟩; have K3 := Lib.hid (K2.out.trans k3); clear k3; obtain ⟨x5, hx5, -, -, c5, -⟩ := HX2.out _ K3.out; injection hx5 with hx5; subst hx5)
                go_ret
                exact ⟨by rw [HF.out]; rfl, K3.out⟩
end Go.Proofs.Ythjnkjekidagiaa.Wch
namespace Go.Proofs.Ythjnkjekidagiaa.Wch
open Go.RowKit
open Mem

set_option maxRecDepth 100000 in
set_option maxHeartbeats 4000000 in
theorem clauses_none (k : Int) (env : Value) (w : World) (he : env = .agg #[.pointer none, .slice none 0 0, .pointer none, .slice none 0 0, .int .i64 0, .int .i64 0]) : Calls Try.prog 17 #[.slice none 0 0, .int .i64 k, env] w fun e w' => e = .returned (.tuple #[.slice none 0 0, .bool true]) ∧ Kept w w' := by
  subst he
  go_enter Try.func17, Try.ntmps17
  go_wp2
  go_step3
  go_wp2
  go_step3
  go_wp2
  refine wp_loop_rounds 1 ?_
  rw [rounds_succ]
  go_wp2
  rw [Exit.noGoto_ret]
  go_ret2
  exact ⟨rfl, (Kept.refl w).alloc _⟩
set_option maxRecDepth 100000 in
set_option maxHeartbeats 4000000 in
theorem awake_any (w : World) : Calls Try.prog 6 #[] w fun e w' => e = .returned (.bool true) ∧ Hid (Kept w w') := by
  go_enter Try.func6, Try.ntmps6
  go_wp2_with (go_at_call 17; refine (clauses_none _ _ _ rfl).mono ?_; rintro e w1 ⟨rfl, k1⟩; have K1 := Lib.hid k1; clear k1)
  go_ret
  exact ⟨rfl, K1⟩
theorem small_fill : ∀ (l : List (Int × Nat)) (u : List Int), (∀ x ∈ l, x.2 ≤ 16) → Small (Evl.fillF l u)
  | [], _, _ => Small.nil
  | x :: r, u, h => by
    intro y hy
    unfold Evl.fillF at hy
    rcases List.mem_cons.1 hy with rfl | hy
    · have h1 := h x (List.mem_cons_self ..)
      show ((u.take x.2).map (Typ.wrapF x.1) ++ List.replicate (x.2 - u.length) 0).length ≤ 16
      rw [List.length_append, List.length_map, List.length_take, List.length_replicate]
      omega
    · exact small_fill r _ (fun z hz => h z (List.mem_cons_of_mem _ hz)) y hy
theorem small_both (u : List Int) : Small (Evl.bothF u) := small_fill _ _ (by decide)
theorem both_len (u : List Int) : (Evl.bothF u).length = 4 := rfl
end Go.Proofs.Ythjnkjekidagiaa.Wch
namespace Go.Proofs.Ythjnkjekidagiaa.Wch
open Go.RowKit
open Prs (Ex Cn)
open Evl
open Mem (box_cell box_froz box_lt own_chg Chg own_base)

/-- The cells of an event that is a check. -/
def evC (a k n : Int) : List Value := [.int .i64 3, .int .i64 a, .int .i64 k, .string ⟨#[]⟩, .int .i64 n, .slice none 0 0]
def evsC (k : Int) (l : List (Int × Int)) : List Value := l.flatMap fun x => evC x.1 k x.2
theorem evsC_snoc (k : Int) (l : List (Int × Int)) (x : Int × Int) : evsC k (l ++ [x]) = evsC k l ++ evC x.1 k x.2 := by simp [evsC]
set_option maxHeartbeats 4000000 in
theorem check_any (a k n : Int) (cv : Value) (w : World) (hcv : ∃ x l c, cv = .slice x l c) : Calls Try.prog 34 #[.agg #[.int .i64 a, cv], .int .i64 k, .int .i64 n] w fun e w' => e = .returned (.agg #[.int .i64 3, .int .i64 a, .int .i64 k, .string ⟨#[]⟩, .int .i64 n, .slice none 0 0]) ∧ Kept w w' := by
  obtain ⟨x, l, c, rfl⟩ := hcv
  go_enter Try.func34, Try.ntmps34
  go_wp2
  have e : w.heap.size + 1 = (w.alloc (.cells #[.int .i64 a, .slice x l c] 43)).heap.size := by simp
  have hn := heap_alloc_new (w.alloc (.cells #[.int .i64 a, .slice x l c] 43)) (.cells #[.int .i64 3, .int .i64 a, .int .i64 k, .string ⟨#[]⟩, .int .i64 n, .slice none 0 0] 51)
  rw [← e] at hn
  have h0 := box_cell hn 0 _ rfl
  have h1 := box_cell hn 1 _ rfl
  have h2 := box_cell hn 2 _ rfl
  have h3 := box_cell hn 3 _ rfl
  have h4 := box_cell hn 4 _ rfl
  have h5 := box_cell hn 5 _ rfl
  refine bodyPost_ret (v := .agg #[.int .i64 3, .int .i64 a, .int .i64 k, .string ⟨#[]⟩, .int .i64 n, .slice none 0 0]) ?_ rfl ⟨rfl, ((Kept.refl w).alloc _).alloc _⟩
  simp [results, Try.results34, go_sem, h0, h1, h2, h3, h4, h5]

/-- Clauses in memory: where each stands, its conditions. -/
def ClsAt (w : World) (v : Value) (L : List (Int × List Cn)) : Prop :=
  L.length ≤ 100000 ∧ ((v = .slice none 0 0 ∧ L = []) ∨ ∃ b cap cur, v = .slice (some ⟨b, 0, none⟩) L.length cap ∧ L.length ≤ cap ∧ cap ≤ maxLen ∧ w.heap[b]? = some (.cells cur 43 (0, 0)) ∧ ∀ i (hi : i < L.length), ∃ cv, cur[i * 2]? = some (.int .i64 L[i].1) ∧ cur[i * 2 + 1]? = some cv ∧ CondsAt w cv L[i].2)
theorem ClsAt.form {w : World} {v : Value} {L : List (Int × List Cn)} (h : ClsAt w v L) : ∃ a c, v = .slice a L.length c := by
  rcases h.2 with ⟨h1, h2⟩ | ⟨b, cap, cur, h1, _⟩
  · exact ⟨none, 0, by rw [h1, h2]; rfl⟩
  · exact ⟨_, _, h1⟩
theorem ClsAt.kept {w w' : World} {v : Value} {L : List (Int × List Cn)} (h : ClsAt w v L) (hk : Kept w w') : ClsAt w' v L := by
  refine ⟨h.1, ?_⟩
  rcases h.2 with h | ⟨b, cap, cur, h1, h2, h3, h4, h5⟩
  · exact .inl h
  · refine .inr ⟨b, cap, cur, h1, h2, h3, Mem.Kept.heap hk h4, fun i hi => ?_⟩
    obtain ⟨cv, e1, e2, e3⟩ := h5 i hi
    exact ⟨cv, e1, e2, e3.kept hk⟩
theorem ClsAt.at {w : World} {a : Option Addr} {n c : Nat} {L : List (Int × List Cn)} (h : ClsAt w (.slice a n c) L) {i : Nat} (hi : i < L.length) : ∃ b ca cc, a = some ⟨b, 0, none⟩ ∧ L.length ≤ c ∧ c ≤ maxLen ∧ w.cell? ⟨b, i * 2, none⟩ = some (.int .i64 L[i].1) ∧ w.cell? ⟨b, i * 2 + 1, none⟩ = some (.slice ca L[i].2.length cc) ∧ CondsAt w (.slice ca L[i].2.length cc) L[i].2 := by
  rcases h.2 with ⟨_, h2⟩ | ⟨b, cap, cur, h1, h2, h3, h4, h5⟩
  · subst h2; simp at hi
  · injection h1 with e1 e2 e3
    subst e1 e3
    obtain ⟨cv, g1, g2, g3⟩ := h5 i hi
    obtain ⟨ca, cc, rfl⟩ := g3.form
    exact ⟨b, ca, cc, rfl, h2, h3, box_cell h4 _ _ g1, box_cell h4 _ _ g2, g3⟩
def holdsE (E : Env) (x : Int × List Cn) : Bool := (tstA x.2 E ((x.2.length : Int) - 1)).is
/-- What is told of clauses: where each that was looked at stands, and 1 or 0; whether all hold. -/
def clsE (E : Env) : List (Int × List Cn) → List (Int × Int) × Bool
  | [] => ([], true)
  | x :: r => if holdsE E x = true then ((x.1, 1) :: (clsE E r).1, (clsE E r).2) else ([(x.1, 0)], false)
theorem cls_end (E : Env) {L : List (Int × List Cn)} {k : Nat} (h : L.length ≤ k) : clsE E (L.drop k) = ([], true) := by rw [List.drop_of_length_le h]; rfl
theorem cls_yes {E : Env} {L : List (Int × List Cn)} {k : Nat} (hk : k < L.length) (h : holdsE E L[k] = true) : clsE E (L.drop k) = ((L[k].1, 1) :: (clsE E (L.drop (k + 1))).1, (clsE E (L.drop (k + 1))).2) := by
  rw [List.drop_eq_getElem_cons hk]; conv => lhs; unfold clsE
  rw [if_pos h]
theorem cls_no {E : Env} {L : List (Int × List Cn)} {k : Nat} (hk : k < L.length) (h : holdsE E L[k] = false) : clsE E (L.drop k) = ([(L[k].1, 0)], false) := by
  rw [List.drop_eq_getElem_cons hk]; unfold clsE
  rw [if_neg (by rw [h]; simp)]
theorem own_low {w : World} {B C n size : Nat} {e : TypeId} {v : Value} {xs : List Value} (h : w.ownsRow B e size v n xs) (hc : C ≤ B) : w.ownsRow C e size v n xs := by
  refine ⟨h.1, ?_⟩
  rcases h.2 with h2 | ⟨g, cap, c, h0, h1, h2⟩
  · exact .inl h2
  · exact .inr ⟨g, cap, c, h0, Nat.le_trans hc h1, h2⟩
theorem own_form {w : World} {B n size : Nat} {e : TypeId} {v : Value} {xs : List Value} (h : w.ownsRow B e size v n xs) : ∃ a c, v = .slice a n c := by
  rcases h.2 with ⟨h1, h2⟩ | ⟨g, cap, c, h0, _⟩
  · exact ⟨none, 0, by rw [h1, h2]⟩
  · exact ⟨_, _, h0⟩
theorem event_info : (Try.prog.info? 51).map (fun i => (i.zero, i.size, i.bytes)) = some (some (.agg #[.int .i64 0, .int .i64 0, .int .i64 0, .string ⟨#[]⟩, .int .i64 0, .slice none 0 0]), 6, 72) := by kernel_rfl
/-- A round's state. -/
def Rnd (w wx : World) (E : Env) (L : List (Int × List Cn)) (kind : Int) (r : List (Int × Int) × Bool) (va : Value) (k : Nat) : Prop :=
  ∃ A, A.length = k ∧ Kept w wx ∧ wx.ownsRow w.heap.size 51 6 va k (evsC kind A) ∧ r = (A ++ (clsE E (L.drop k)).1, (clsE E (L.drop k)).2)
set_option maxRecDepth 100000 in
set_option maxHeartbeats 4000000 in
theorem Clauses_any {w : World} {cv mv bv ov obv : Value} {L : List (Int × List Cn)} {E : Env} (kind : Int) (hL : ClsAt w cv L) (hE : EnvAt w mv bv ov obv E) (hD : ∀ i (h : i < L.length), DownA L[i].2) :
    Calls Try.prog 17 #[cv, .int .i64 kind, envVal mv bv ov obv E] w fun x w' => ∃ v, x = .returned (.tuple #[v, .bool (clsE E L).2]) ∧ Hid (Kept w w' ∧ w'.ownsRow w.heap.size 51 6 v (clsE E L).1.length (evsC kind (clsE E L).1)) := by
  obtain ⟨la, lc, rfl⟩ := hL.form
  obtain ⟨m, hm⟩ := hE.mem.form
  obtain ⟨o, ho⟩ := hE.old.form
  obtain ⟨ba, bl, bc, hb⟩ := binds_form hE.binds
  obtain ⟨oa, ol, oc, hob⟩ := binds_form hE.olds
  subst hm ho hb hob
  have hlen := hL.1
  have HH := Lib.hid (And.intro hL hE)
  have HD := Lib.hid hD
  clear hL hE hD
  generalize hr : clsE E L = r
  have HR := Lib.hid hr
  clear hr
  obtain ⟨i0, hi0, hz0, hz1, hz2⟩ := info_parts event_info
  have Hi := Lib.hid (And.intro hi0 (And.intro hz0 (And.intro hz1 hz2)))
  clear hi0 hz0 hz1 hz2
  unfold envVal
  go_enter Try.func17, Try.ntmps17
  go_wp2
  go_step3
  go_wp2
  go_step3
  have x0 := heap_alloc_new w (.cells #[.pointer m, .slice ba bl bc, .pointer o, .slice oa ol oc, .int .i64 E.res, .int .i64 E.t] 49)
  have KW := Lib.hid ((Kept.refl w).alloc (.cells #[.pointer m, .slice ba bl bc, .pointer o, .slice oa ol oc, .int .i64 E.res, .int .i64 E.t] 49))
  have hsz : w.heap.size ≤ (w.alloc (.cells #[.pointer m, .slice ba bl bc, .pointer o, .slice oa ol oc, .int .i64 E.res, .int .i64 E.t] 49)).heap.size := by simp
  generalize w.alloc (.cells #[.pointer m, .slice ba bl bc, .pointer o, .slice oa ol oc, .int .i64 E.res, .int .i64 E.t] 49) = W at *
  have X0 := Lib.hid x0
  have HS := Lib.hid (show Rnd W W E L kind r (.slice none 0 0) 0 from ⟨[], rfl, Kept.refl _, ⟨rfl, .inl ⟨rfl, rfl⟩⟩, by rw [← HR.out]; rfl⟩)
  clear x0 HR
  generalize w.heap.size = be at *
  go_wp2
  go_loopw [8, 9, 17] (fun va b i wr => ∃ k : Nat, k ≤ L.length ∧ i = .int .i64 k ∧ b = .bool true ∧ Hid (Rnd W wr E L kind r va k)) (fun _ _ i _ => L.length - (intOf i).toNat)
  case atStart => exact ⟨0, Nat.zero_le _, rfl, rfl, HS⟩
  case round =>
    clear HS
    obtain ⟨k, hk, rfl, rfl, HK⟩ := hrel
    by_cases hlt : k < L.length
    case neg =>
      obtain ⟨A, hA, kA, oA, eA⟩ := HK.out
      rw [cls_end E (by omega)] at eA
      obtain rfl := eA
      obtain rfl : k = L.length := by omega
      have HZ := Lib.hid (And.intro hA (And.intro kA oA))
      clear HK HH HD hA kA oA
      go_wp2
      rw [Exit.noGoto_ret]
      go_ret2
      obtain ⟨hA, kA, oA⟩ := HZ.out
      exact ⟨_, rfl, Lib.hid ⟨KW.out.trans kA, by rw [List.append_nil, hA]; exact own_low oA KW.out.size⟩⟩
    obtain ⟨A, hA, kA, oA, eA⟩ := HK.out
    obtain ⟨b, ca, cc, rfl, b1, b2, c1, c2, hc⟩ := (HH.out.1.kept (KW.out.trans kA)).at hlt
    obtain ⟨va, vc, rfl⟩ := own_form oA
    have HT := Lib.hid (fun W' (hk : Kept W W') (hk2 : Kept wr W') => Test_any (hc.kept hk2) (HH.out.2.kept (KW.out.trans hk)) (HD.out k hlt) ((L[k].2.length : Int) - 1))
    have hln : 0 ≤ (L[k].2.length : Int) ∧ (L[k].2.length : Int) ≤ 8193 := ⟨by omega, by have := hc.1; omega⟩
    have eh : (tstA L[k].2 E ((L[k].2.length : Int) - 1)).is = holdsE E L[k] := rfl
    rw [eh] at HT
    unfold envVal at HT
    have HY : Hid (holdsE E L[k] = true → r = (A ++ ((L[k].1, 1) :: (clsE E (L.drop (k + 1))).1), (clsE E (L.drop (k + 1))).2)) := Lib.hid fun h => by rw [eA, cls_yes hlt h]
    have HN : Hid (holdsE E L[k] = false → r = (A ++ [(L[k].1, 0)], false)) := Lib.hid fun h => by rw [eA, cls_no hlt h]
    have HO := Lib.hid (And.intro kA (And.intro hA oA))
    have hx := Mem.Kept.heap kA X0.out
    have X1 := Lib.hid hx
    clear hc HK hA kA oA eA eh HD HH X0
    generalize holdsE E L[k] = hb at *
    generalize (tstA L[k].2 E ((L[k].2.length : Int) - 1)).ub = ub at *
    generalize (tstA L[k].2 E ((L[k].2.length : Int) - 1)).at_ = uat at *
    generalize L[k].1 = a at *
    generalize L[k].2.length = n at *
    simp only [maxLen] at b2
    go_upto_region 6 with fail
    have x5 := heap_alloc_new wr (.cells #[.int .i64 a, .slice ca n cc] 43)
    have K5 := Lib.hid ((Kept.refl wr).alloc (.cells #[.int .i64 a, .slice ca n cc] 43))
    generalize wr.alloc (.cells #[.int .i64 a, .slice ca n cc] 43) = W5 at *
    generalize wr.heap.size = g5 at *
    have d0 := box_cell x5 0 _ rfl
    have d1 := box_cell x5 1 _ rfl
    have hx5 := Mem.Kept.heap K5.out hx
    have y0 := box_cell hx5 0 _ rfl
    have y1 := box_cell hx5 1 _ rfl
    have y2 := box_cell hx5 2 _ rfl
    have y3 := box_cell hx5 3 _ rfl
    have y4 := box_cell hx5 4 _ rfl
    have y5 := box_cell hx5 5 _ rfl
    have X5 := Lib.hid x5
    have HT5 := Lib.hid (HT.out W5 (HO.out.1.trans K5.out) K5.out)
    clear x5 hx hx5 HT c1 c2
    go_upto_region 9 with (go_at_call 33; refine (HT5.out).mono ?_; rintro e6 w6 ⟨rfl, k6⟩; have K6 := Lib.hid k6; clear k6)
    have x6 := Mem.Kept.heap K6.out X5.out
    have z0 := box_cell x6 0 (.int .i64 a) rfl
    have z1 := box_cell x6 1 (.slice ca n cc) rfl
    have HO6 := Lib.hid (And.intro ((HO.out.1.trans K5.out).trans K6.out) (own_chg (S := fun _ => False) HO.out.2.2 (Chg.of_kept (K5.out.trans K6.out)) (fun _ _ => id)))
    have HL := Lib.hid HO.out.2.1
    clear x6 X5 HT5 y0 y1 y2 y3 y4 y5 d0 d1 HO X1 K5 K6
    have hk6 : k ≤ 100000 := by omega
    cases hb
    case' true =>
      have HF := Lib.hid (HY.out rfl)
      clear HY HN
      go_wp2_with (first | (go_at_call 34; refine (check_any a kind 1 _ _ ⟨_, _, _, rfl⟩).mono ?_; rintro e7 w7 ⟨rfl, k7⟩; have HO7 := Lib.hid (And.intro (HO6.out.1.trans k7) (own_chg (S := fun _ => False) HO6.out.2 (Chg.of_kept k7) (fun _ _ => id))); clear k7; have hs7 := HO7.out.1.size) | (at_builtin; refine wpList_append_lies _ rfl (.tmp 41) (.tmp 45) 44 rfl W.heap.size 51 i0 _ 6 72 Try.underlying44 Hi.out.1 Hi.out.2.1 Hi.out.2.2.1 Hi.out.2.2.2 rfl (by omega) (.slice va k vc) k (evsC kind A) rfl (HO7.out.2.alloc _) ⟨w7.heap.size, 0, none⟩ 1 1 (evC a kind 1) rfl rfl (World.news_of_block (cs := #[.int .i64 3, .int .i64 a, .int .i64 kind, .string ⟨#[]⟩, .int .i64 1, .slice none 0 0]) (heap_alloc_new w7 _)) (by simp [Value.oneCell', evC]) (by omega) (by simp only [maxLen]; omega) (by omega) (by simp; omega) (w7.heap.size + 1) (by simp) ?_; intro g8 cap8 w8 hown hgrow hat hlt8; have HO8 := Lib.hid (And.intro hown hgrow); clear hown hgrow hat))
      refine ⟨⟨k + 1, by omega, by simp, rfl, Lib.hid ⟨A ++ [(a, 1)], by simp [HL.out], ?_, ?_, ?_⟩⟩, by simp [intOf]; omega⟩
      · exact Below.grown (HO7.out.1.alloc _) HO8.out.2 (by simp; omega) (fun j hj => own_base HO7.out.2 hj)
      · rw [evsC_snoc]; exact HO8.out.1
      · rw [HF.out]; simp
    case' false =>
      have HF := Lib.hid (HN.out rfl)
      clear HY HN
      go_wp2_with (first | (go_at_call 34; refine (check_any a kind 0 _ _ ⟨_, _, _, rfl⟩).mono ?_; rintro e7 w7 ⟨rfl, k7⟩; have HO7 := Lib.hid (And.intro (HO6.out.1.trans k7) (own_chg (S := fun _ => False) HO6.out.2 (Chg.of_kept k7) (fun _ _ => id))); clear k7; have hs7 := HO7.out.1.size) | (at_builtin; refine wpList_append_lies _ rfl (.tmp 33) (.tmp 37) 44 rfl W.heap.size 51 i0 _ 6 72 Try.underlying44 Hi.out.1 Hi.out.2.1 Hi.out.2.2.1 Hi.out.2.2.2 rfl (by omega) (.slice va k vc) k (evsC kind A) rfl (HO7.out.2.alloc _) ⟨w7.heap.size, 0, none⟩ 1 1 (evC a kind 0) rfl rfl (World.news_of_block (cs := #[.int .i64 3, .int .i64 a, .int .i64 kind, .string ⟨#[]⟩, .int .i64 0, .slice none 0 0]) (heap_alloc_new w7 _)) (by simp [Value.oneCell', evC]) (by omega) (by simp only [maxLen]; omega) (by omega) (by simp; omega) (w7.heap.size + 1) (by simp) ?_; intro g8 cap8 w8 hown hgrow hat hlt8; have HO8 := Lib.hid (And.intro hown hgrow); clear hown hgrow hat))
      rw [Exit.noGoto_ret]
      go_ret2
      refine ⟨_, by rw [HF.out]; rfl, Lib.hid ⟨?_, ?_⟩⟩
      · exact KW.out.trans (Below.grown (HO7.out.1.alloc _) HO8.out.2 (by simp; omega) (fun j hj => own_base HO7.out.2 hj))
      · rw [HF.out, evsC_snoc, List.length_append, HL.out]; exact own_low HO8.out.1 KW.out.size
end Go.Proofs.Ythjnkjekidagiaa.Wch
namespace Go.Proofs.Ythjnkjekidagiaa.Wch
open Go.RowKit
open Prs (Ex Cn)
open Evl
open Lex (lst)
open Mem (box_cell box_froz box_lt own_chg Chg own_base own_ty)

theorem list_stay {w w' : World} {v : Value} {l : List Ex} (h : ListAt w v l) (hs : ∀ (b : Nat) (cs : Array Value), w.heap[b]? = some (Obj.cells cs 146 (0, 0)) → w'.heap[b]? = some (Obj.cells cs 146 (0, 0))) : ListAt w' v l := by
  obtain ⟨h0, h | ⟨b, cap, cur, h1, h2, h3, h4, h5⟩⟩ := h
  · exact ⟨h0, .inl h⟩
  · exact ⟨h0, .inr ⟨b, cap, cur, h1, h2, h3, hs _ _ h4, h5⟩⟩
theorem conds_stay {w w' : World} {v : Value} {l : List Cn} (h : CondsAt w v l) (hs : ∀ (b : Nat) (cs : Array Value) (t : TypeId), t = 146 ∨ t = 101 → w.heap[b]? = some (Obj.cells cs t (0, 0)) → w'.heap[b]? = some (Obj.cells cs t (0, 0))) : CondsAt w' v l := by
  obtain ⟨h0, h | ⟨b, cap, cur, h1, h2, h3, h4, h5⟩⟩ := h
  · exact ⟨h0, .inl h⟩
  · refine ⟨h0, .inr ⟨b, cap, cur, h1, h2, h3, hs _ _ _ (.inr rfl) h4, fun i hi => ?_⟩⟩
    obtain ⟨x, y, hc⟩ := h5 i hi
    exact ⟨x, y, hc.c0, hc.c1, hc.c2, hc.c3, hc.c4, hc.c5, hc.c6, list_stay hc.lx (fun b cs => hs b cs _ (.inl rfl)), list_stay hc.ly (fun b cs => hs b cs _ (.inl rfl))⟩
/-- Clauses in a row of one's own. -/
def ClsOwn (B : Nat) (w : World) (v : Value) (L : List (Int × List Cn)) : Prop :=
  ∃ cs : List Value, w.ownsRow B 43 2 v L.length cs ∧ ∀ i (hi : i < L.length), ∃ cv, cs[i * 2]? = some (.int .i64 L[i].1) ∧ cs[i * 2 + 1]? = some cv ∧ CondsAt w cv L[i].2
theorem ClsOwn.nil (B : Nat) (w : World) : ClsOwn B w (.slice none 0 0) [] := ⟨[], ⟨rfl, .inl ⟨rfl, rfl⟩⟩, fun i hi => by simp at hi⟩
theorem ClsOwn.kept {B : Nat} {w w' : World} {v : Value} {L : List (Int × List Cn)} (h : ClsOwn B w v L) (hk : Kept w w') : ClsOwn B w' v L := by
  obtain ⟨cs, h1, h2⟩ := h
  refine ⟨cs, own_chg (S := fun _ => False) h1 (Chg.of_kept hk) (fun _ _ => id), fun i hi => ?_⟩
  obtain ⟨cv, e1, e2, e3⟩ := h2 i hi
  exact ⟨cv, e1, e2, e3.kept hk⟩
theorem ClsOwn.at {B : Nat} {w : World} {v : Value} {L : List (Int × List Cn)} (h : ClsOwn B w v L) (hl : L.length ≤ 100000) : ClsAt w v L := by
  obtain ⟨cs, h1, h2⟩ := h
  refine ⟨hl, ?_⟩
  rcases h1.2 with ⟨e1, e2⟩ | ⟨g, cap, c, e1, e2, e3, e4, e5, e6, e7⟩
  · exact .inl ⟨e1, List.length_eq_zero_iff.1 e2⟩
  · refine .inr ⟨g, cap, c, e1, e4, e5, e3, fun i hi => ?_⟩
    obtain ⟨cv, d1, d2, d3⟩ := h2 i hi
    have hg : ∀ j u, j < L.length * 2 → cs[j]? = some u → c[j]? = some u := by
      intro j u hj hu
      rw [← e7, List.getElem?_take, if_pos hj] at hu
      simpa using hu
    exact ⟨cv, hg _ _ (by omega) d1, hg _ _ (by omega) d2, d3⟩
/-- One more. -/
theorem ClsOwn.app {B : Nat} {w w2 : World} {v : Value} {L : List (Int × List Cn)} {cs : List Value} (h1 : w.ownsRow B 43 2 v L.length cs) (h2 : ∀ i (hi : i < L.length), ∃ cv, cs[i * 2]? = some (.int .i64 L[i].1) ∧ cs[i * 2 + 1]? = some cv ∧ CondsAt w cv L[i].2) {a : Int} {cv : Value} {l : List Cn} (hc : CondsAt w cv l) {o : Obj} {v' : Value}
    (ho : w2.ownsRow B 43 2 v' (L.length + 1) (cs ++ [.int .i64 a, cv])) (hg : (w.alloc o).grownBy w2 v.ownBlock) : ClsOwn B w2 v' (L ++ [(a, l)]) := by
  have hst : ∀ (b : Nat) (cs : Array Value) (t : TypeId), t = 146 ∨ t = 101 → w.heap[b]? = some (Obj.cells cs t (0, 0)) → w2.heap[b]? = some (Obj.cells cs t (0, 0)) := by
    intro b cs' t ht hb
    have hlt := box_lt hb
    refine (hg.block b (by simp; omega) (fun e => ?_)).trans ((Below.heap_alloc _ _ _ hlt).trans hb)
    obtain ⟨c, hc⟩ := own_ty h1 e.symm
    rw [hb] at hc
    injection hc with hc; injection hc with _ hc
    rcases ht with ht | ht <;> (rw [ht] at hc; exact absurd hc (by decide))
  have hlen : cs.length = L.length * 2 := h1.1
  refine ⟨cs ++ [.int .i64 a, cv], by simpa using ho, fun i hi => ?_⟩
  by_cases hi' : i < L.length
  · obtain ⟨cv', e1, e2, e3⟩ := h2 i hi'
    have e : (L ++ [(a, l)])[i] = L[i] := List.getElem_append_left hi'
    exact ⟨cv', by rw [List.getElem?_append_left (by omega), e1, e], by rw [List.getElem?_append_left (by omega), e2], by rw [e]; exact conds_stay e3 hst⟩
  · have hi2 : i = L.length := by simp at hi; omega
    subst hi2
    have e : (L ++ [(a, l)])[L.length] = (a, l) := by simp
    exact ⟨cv, by rw [List.getElem?_append_right (by omega), e, hlen, Nat.sub_self]; rfl, by rw [List.getElem?_append_right (by omega), hlen, show L.length * 2 + 1 - L.length * 2 = 1 by omega]; rfl, by rw [e]; exact conds_stay hc hst⟩

def cY : Cn := ⟨1, 1, [⟨1, 1, 5, [], -1, -1, 0⟩], [⟨1, 1, 5, [], -1, -1, 5⟩], -1, -1, 2⟩
theorem cY_read : Rpr.condRead (lst ⟨#[49, 32, 61, 61, 32, 49]⟩) = some [cY] := by decide +kernel
theorem cN_read : Rpr.condRead (lst ⟨#[49, 32, 47, 32, 48, 32, 61, 61, 32, 49]⟩) = some [cB 0] := by decide +kernel
def E0 : Env := ⟨none, [], none, [], 0, 0⟩
theorem cY_holds (a : Int) : holdsE E0 (a, [cY]) = true := by
  show (tstA [cY] E0 (([cY].length : Int) - 1)).is = true
  decide +kernel
theorem cN_holds (a : Int) : holdsE E0 (a, [cB 0]) = false := by
  show (tstA [cB 0] E0 (([cB 0].length : Int) - 1)).is = false
  decide +kernel
def cZ (b : Bool) : Cn := if b then cY else cB 0
theorem cZ_holds (a : Int) (b : Bool) : holdsE E0 (a, [cZ b]) = b := by
  cases b
  · exact cN_holds a
  · exact cY_holds a
theorem cZ_down (b : Bool) : DownA [cZ b] := by
  refine ⟨fun i h => ?_, fun i h => ?_⟩
  · obtain rfl : i = 0 := by simpa using h
    cases b <;> exact ⟨show (-1 : Int) < 0 by decide, show (-1 : Int) < 0 by decide⟩
  · obtain rfl : i = 0 := by simpa using h
    cases b <;> exact ⟨down_of rfl, down_of rfl⟩
theorem cZ_small (b : Bool) : ∀ i (h : i < [cZ b].length), [cZ b][i].x.length ≤ 8193 ∧ [cZ b][i].y.length ≤ 8193 := by
  intro i h
  obtain rfl : i = 0 := by simpa using h
  cases b
  · exact ⟨show 3 ≤ 8193 by decide, show 1 ≤ 8193 by decide⟩
  · exact ⟨show 1 ≤ 8193 by decide, show 1 ≤ 8193 by decide⟩
/-- The clauses of WatchStops, from the i-th on. -/
def clsL (z : Nat → Bool) : Nat → Nat → List (Int × List Cn)
  | _, 0 => []
  | i, n + 1 => (10 * (i : Int), [cZ (z i)]) :: clsL z (i + 1) n
theorem clsL_len (z : Nat → Bool) (i n : Nat) : (clsL z i n).length = n := by
  induction n generalizing i with
  | zero => rfl
  | succ n ih => simp [clsL, ih]
theorem clsL_snoc (z : Nat → Bool) (i n : Nat) : clsL z i (n + 1) = clsL z i n ++ [(10 * ((i + n : Nat) : Int), [cZ (z (i + n))])] := by
  induction n generalizing i with
  | zero => rfl
  | succ n ih =>
    rw [clsL, ih (i + 1), show i + 1 + n = i + (n + 1) by omega]; rfl
theorem clsL_down (z : Nat → Bool) (i n : Nat) : ∀ j (h : j < (clsL z i n).length), DownA (clsL z i n)[j].2 := by
  induction n generalizing i with
  | zero => intro j h; simp [clsL] at h
  | succ n ih =>
    intro j h
    cases j with
    | zero => exact cZ_down _
    | succ j => exact ih (i + 1) j (by simpa [clsL] using h)
def evL (z : Nat → Bool) : Nat → Nat → List (Int × Int)
  | _, 0 => []
  | i, n + 1 => (10 * (i : Int), if z i then 1 else 0) :: evL z (i + 1) n
theorem evL_len (z : Nat → Bool) (i n : Nat) : (evL z i n).length = n := by
  induction n generalizing i with
  | zero => rfl
  | succ n ih => simp [evL, ih]
theorem evL_at (z : Nat → Bool) (i n j : Nat) (h : j < n) : (evL z i n)[j]'(by rw [evL_len]; exact h) = (10 * ((i + j : Nat) : Int), if z (i + j) then 1 else 0) := by
  induction n generalizing i j with
  | zero => omega
  | succ n ih =>
    cases j with
    | zero => rfl
    | succ j =>
      have := ih (i + 1) j (by omega)
      simp only [evL, List.getElem_cons_succ]
      rw [this, show i + 1 + j = i + (j + 1) by omega]
def allL (z : Nat → Bool) : Nat → Nat → Bool
  | _, 0 => true
  | i, n + 1 => z i && allL z (i + 1) n
theorem allL_snoc (z : Nat → Bool) (i n : Nat) : allL z i (n + 1) = (allL z i n && z (i + n)) := by
  induction n generalizing i with
  | zero => simp [allL]
  | succ n ih => rw [allL, ih (i + 1), allL, Bool.and_assoc, show i + 1 + n = i + (n + 1) by omega]
/-- What Clauses tells of them: so many, all but the last of which hold. -/
theorem cls_form (z : Nat → Bool) (i n : Nat) : ∃ m, m ≤ n ∧ clsE E0 (clsL z i n) = (evL z i m, allL z i m) ∧ (∀ j, j + 1 < m → z (i + j) = true) ∧ (m < n → 0 < m ∧ z (i + (m - 1)) = false) := by
  induction n generalizing i with
  | zero => exact ⟨0, by omega, rfl, by omega, by omega⟩
  | succ n ih =>
    cases hz : z i
    · refine ⟨1, by omega, ?_, by omega, fun _ => ⟨by omega, by simpa using hz⟩⟩
      have h1 : ¬ holdsE E0 (10 * (i : Int), [cZ (z i)]) = true := by rw [cZ_holds, hz]; simp
      have e : clsE E0 (clsL z i (n + 1)) = ([(10 * (i : Int), 0)], false) := if_neg h1
      rw [e]
      simp only [evL, allL, hz]
      rfl
    · obtain ⟨m, h1, h2, h3, h4⟩ := ih (i + 1)
      refine ⟨m + 1, by omega, ?_, ?_, ?_⟩
      · have h5 : holdsE E0 (10 * (i : Int), [cZ (z i)]) = true := by rw [cZ_holds, hz]
        have e : clsE E0 (clsL z i (n + 1)) = ((10 * (i : Int), 1) :: (clsE E0 (clsL z (i + 1) n)).1, (clsE E0 (clsL z (i + 1) n)).2) := if_pos h5
        rw [e, h2]
        simp only [evL, allL, hz]
        rfl
      · intro j hj
        cases j with
        | zero => exact hz
        | succ j => have := h3 j (by omega); rwa [show i + 1 + j = i + (j + 1) by omega] at this
      · intro hm
        obtain ⟨h5, h6⟩ := h4 (by omega)
        refine ⟨by omega, ?_⟩
        rwa [show i + 1 + (m - 1) = i + (m + 1 - 1) by omega] at h6
/-- What the law reckons: how many events there are to be. -/
def wantL (z : Nat → Bool) (n : Nat) : Nat → Nat
  | 0 => n
  | k + 1 => if z k then wantL z n k else min (wantL z n k) (k + 1)
theorem want_is {z : Nat → Bool} {n m : Nat} (h1 : m ≤ n) (h3 : ∀ j, j + 1 < m → z j = true) (h4 : m < n → 0 < m ∧ z (m - 1) = false) (k : Nat) : wantL z n k = if k < m then n else m := by
  induction k with
  | zero => unfold wantL; split <;> omega
  | succ k ih =>
    unfold wantL
    rw [ih]
    by_cases e1 : k + 1 < m
    · rw [h3 k e1]; simp; split <;> omega
    · by_cases e2 : k + 1 = m
      · cases hz : z k
        · simp; split <;> omega
        · have : m = n := by
            rcases Nat.lt_or_ge m n with h | h
            · have := (h4 h).2; rw [show m - 1 = k by omega, hz] at this; cases this
            · omega
          simp; split <;> omega
      · cases hz : z k
        · simp; split <;> omega
        · simp; split <;> omega
theorem evsC_at (k : Int) (l : List (Int × Int)) (i : Nat) (hi : i < l.length) (j : Nat) (hj : j < 6) : (evsC k l)[i * 6 + j]? = (evC l[i].1 k l[i].2)[j]? := by
  unfold evsC
  induction l generalizing i with
  | nil => simp at hi
  | cons a l ih =>
    rw [List.flatMap_cons]
    have h7 : (evC a.1 k a.2).length = 6 := rfl
    cases i with
    | zero => rw [List.getElem?_append_left (by omega)]; simp
    | succ i =>
      rw [List.getElem?_append_right (by omega), h7, show (i + 1) * 6 + j - 6 = i * 6 + j by omega]
      exact ih i (by simpa using hi)
/-- Where an event's numbers stand. -/
theorem ev_cells {w : World} {B : Nat} {v : Value} {k : Int} {l : List (Int × Int)} (h : w.ownsRow B 51 6 v l.length (evsC k l)) {i : Nat} (hi : i < l.length) : ∃ g c, v = .slice (some ⟨g, 0, none⟩) l.length c ∧ l.length ≤ c ∧ c ≤ maxLen ∧ w.cell? ⟨g, i * 6, none⟩ = some (.int .i64 3) ∧ w.cell? ⟨g, i * 6 + 1, none⟩ = some (.int .i64 l[i].1) ∧ w.cell? ⟨g, i * 6 + 2, none⟩ = some (.int .i64 k) ∧ w.cell? ⟨g, i * 6 + 4, none⟩ = some (.int .i64 l[i].2) := by
  rcases h.2 with ⟨_, e2⟩ | ⟨g, cap, c, e1, e2, e3, e4, e5, e6, e7⟩
  · omega
  · have hc : ∀ j u, j < 6 → (evC l[i].1 k l[i].2)[j]? = some u → w.cell? ⟨g, i * 6 + j, none⟩ = some u := by
      intro j u hj hu
      rw [← evsC_at k l i hi j hj, ← e7, List.getElem?_take, if_pos (by omega)] at hu
      exact box_cell e3 _ _ (by simpa using hu)
    exact ⟨g, cap, e1, e4, e5, hc 0 _ (by omega) rfl, hc 1 _ (by omega) rfl, hc 2 _ (by omega) rfl, hc 4 _ (by omega) rfl⟩
end Go.Proofs.Ythjnkjekidagiaa.Wch
