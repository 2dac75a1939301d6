/-
  Package shape: sets by value: less, meet, count; join.
-/
import Derived.Test.YtpkebokfbigggaaDoorShpX
import Derived.Laws.Rows
namespace Go.Proofs.YtpkebokfbigggaaDoor.Shp
open Go.RowKit

/-- A set's 32 words. -/
def setC (x : Nat) : Array Value := #[.int .u64 (x : Int), .int .u64 0, .int .u64 0, .int .u64 0, .int .u64 0, .int .u64 0, .int .u64 0, .int .u64 0, .int .u64 0, .int .u64 0, .int .u64 0, .int .u64 0, .int .u64 0, .int .u64 0, .int .u64 0, .int .u64 0,
  .int .u64 0, .int .u64 0, .int .u64 0, .int .u64 0, .int .u64 0, .int .u64 0, .int .u64 0, .int .u64 0, .int .u64 0, .int .u64 0, .int .u64 0, .int .u64 0, .int .u64 0, .int .u64 0, .int .u64 0, .int .u64 0]
theorem setC_size (x : Nat) : (setC x).size = 32 := rfl
theorem setC_at (x : Nat) : ∀ i, i < 32 → (setC x)[i]? = some (.int .u64 (wd x i : Nat)) := by
  intro i hi
  match i, hi with
  | 0, _ => rfl
  | 1, _ | 2, _ | 3, _ | 4, _ | 5, _ | 6, _ | 7, _ | 8, _ | 9, _ | 10, _ | 11, _ | 12, _ | 13, _ | 14, _ | 15, _ | 16, _ | 17, _ | 18, _ | 19, _ | 20, _ | 21, _ | 22, _ | 23, _ | 24, _ | 25, _ | 26, _ | 27, _ | 28, _ | 29, _ | 30, _ | 31, _ => rfl
  | n + 32, h => exact absurd h (by omega)
theorem setC_zero : setC 0 = (#[.int .u64 0, .int .u64 0, .int .u64 0, .int .u64 0, .int .u64 0, .int .u64 0, .int .u64 0, .int .u64 0, .int .u64 0, .int .u64 0, .int .u64 0, .int .u64 0, .int .u64 0, .int .u64 0, .int .u64 0, .int .u64 0, .int .u64 0, .int .u64 0, .int .u64 0, .int .u64 0, .int .u64 0, .int .u64 0, .int .u64 0, .int .u64 0, .int .u64 0, .int .u64 0, .int .u64 0, .int .u64 0, .int .u64 0, .int .u64 0, .int .u64 0, .int .u64 0] : Array Value) := rfl
theorem setC_one (x : Nat) : (setC x).all (·.oneCell') = true := by simp [setC, Value.oneCell']
theorem setC_of {cs : Array Value} {x : Nat} (hs : cs.size = 32) (h : ∀ i, i < 32 → cs[i]? = some (.int .u64 (wd x i : Nat))) : cs = setC x := by
  apply Array.ext (by rw [hs, setC_size])
  intro i h1 h2
  have h3 := h i (by omega)
  have h4 := setC_at x i (by omega)
  rw [Array.getElem?_eq_getElem h1] at h3
  rw [Array.getElem?_eq_getElem h2] at h4
  rw [← h4] at h3
  injection h3
/-- The words ahead of k are z's, the others x's. -/
def upd (x z k : Nat) : Nat := if k = 0 then x else z
theorem setC_upd (x z : Nat) {k : Nat} (hk : k < 32) : (setC (upd x z k)).setIfInBounds k (.int .u64 (wd z k : Nat)) = setC (upd x z (k + 1)) := by
  refine setC_of (by rw [Array.size_setIfInBounds, setC_size]) fun i hi => ?_
  rw [Array.getElem?_setIfInBounds]
  have e : upd x z (k + 1) = z := by unfold upd; rw [if_neg (by omega)]
  rw [e]
  by_cases hik : k = i
  · subst hik
    rw [if_pos rfl, if_pos (by rw [setC_size]; omega)]
  · rw [if_neg hik, setC_at _ i hi]
    by_cases h0 : k = 0
    · subst h0; rw [wd_pos _ (by omega), wd_pos _ (by omega)]
    · have : upd x z k = z := by unfold upd; rw [if_neg h0]
      rw [this]
theorem wd_upd (x z k : Nat) : wd (upd x z k) k = wd x k := by unfold wd upd; split <;> simp_all
theorem upd_zero (x z : Nat) : upd x z 0 = x := rfl
theorem upd_pos (x z : Nat) {k : Nat} (h : 0 < k) : upd x z k = z := by unfold upd; rw [if_neg (by omega)]
theorem zero42 (w : World) : (zeroValue 42).run Tryd.prog w = .ok (.agg (setC 0)) w := Tryd.zeroValue42 w
/-- A box with a set. -/
def Box (w : World) (b x : Nat) : Prop := w.heap[b]? = some (.cells (setC x) 42 (0, 0))
theorem Box.at {w : World} {b x : Nat} (h : Box w b x) : SetAt w b 0 x := fun i hi => by
  rw [Nat.zero_add]
  exact ⟨bx_cell h i _ (setC_at x i hi), bx_froz h i⟩
theorem Box.lt {w : World} {b x : Nat} (h : Box w b x) : b < w.heap.size := (Array.getElem?_eq_some_iff.1 h).1
theorem Box.kept {w w' : World} {b x : Nat} (h : Box w b x) (hk : Kept w w') : Box w' b x := (hk.block b h.lt).trans h
theorem Box.set {w : World} {b x z k : Nat} (h : Box w b (upd x z k)) (hk : k < 32) : Box (w.setCell ⟨b, k, none⟩ (.int .u64 (wd z k : Nat))) b (upd x z (k + 1)) := by
  unfold Box
  rw [heap_setCell_same _ _ _ _ _ _ h, setC_upd _ _ hk]
theorem Box.other {w : World} {b c k x : Nat} {v : Value} (h : Box w b x) (hn : c ≠ b) : Box (w.setCell ⟨c, k, none⟩ v) b x := by
  unfold Box
  rw [heap_setCell_other _ _ _ _ (fun e => hn e.symm)]
  exact h
theorem Box.same {w w' : World} {b x : Nat} (h : Box w b x) (hs : Same w w') : Box w' b x := by unfold Box; rw [hs.heap]; exact h
theorem Box.new (w : World) (x : Nat) : Box (w.alloc (.cells (setC x) 42)) w.heap.size x := heap_alloc_new _ _
/-- The word at 0 of a box is set. -/
theorem Box.put {w : World} {b x z : Nat} (h : Box w b x) : Box (w.setCell ⟨b, 0, none⟩ (.int .u64 (z : Int))) b z := by
  have := Box.set (x := x) (z := z) (k := 0) (w := w) (b := b) h (by decide)
  exact this
theorem agg42 : (match (TypeDesc.array 32 40) with | .struct _ | .array _ _ => true | _ => false) = true := rfl
theorem info42 (x : Nat) : (Tryd.prog.info? 42).map (·.size) = some (setC x).size := by rw [setC_size]; kernel_rfl
attribute [local go_sem high] zero42
attribute [local irreducible] setC

structure Two (w W : World) (b2 b3 b4 x y : Nat) : Prop where
  kept : Kept w W
  box : Box W b2 x
  other : Box W b3 y
  res : Box W b4 0
  low : w.heap.size ≤ b2 ∧ b2 < b3 ∧ b3 < b4
theorem two_new (w : World) (x y : Nat) : Two w (((w.alloc (.cells (setC x) 42)).alloc (.cells (setC y) 42)).alloc (.cells (setC 0) 42)) w.heap.size (w.heap.size + 1) (w.heap.size + 1 + 1) x y := by
  have h1 := Box.new w x
  have h2 := Box.new (w.alloc (.cells (setC x) 42)) y
  have h3 := Box.new ((w.alloc (.cells (setC x) 42)).alloc (.cells (setC y) 42)) 0
  simp only [World.size_alloc] at h2 h3
  exact ⟨(((Kept.refl w).alloc _).alloc _).alloc _, (h1.kept ((Kept.refl _).alloc _)).kept ((Kept.refl _).alloc _), h2.kept ((Kept.refl _).alloc _), h3, by omega, by omega, by omega⟩
theorem Two.step {w W W' : World} {b2 b3 b4 x z y k : Nat} (h : Two w W b2 b3 b4 (upd x z k) y) (hk : k < 32) (hs : Same W W') : Two w (W'.setCell ⟨b2, k, none⟩ (.int .u64 (wd z k : Nat))) b2 b3 b4 (upd x z (k + 1)) y :=
  ⟨((h.kept.trans (Chg.kept hs.chg (S := fun _ => False) fun _ _ => id))).setCell h.low.1 _, (h.box.same hs).set hk, (h.other.same hs).other (by have := h.low; omega), (h.res.same hs).other (by have := h.low; omega), h.low⟩
theorem Same.kept {w w' : World} (h : Same w w') : Kept w w' := Chg.kept h.chg (S := fun _ => False) fun _ _ => id
theorem kept_row {w w' : World} {b x : Nat} {cs : Array Value} (h : Kept w w') (hb : w.heap.size ≤ b) (hx : Box w' b x) : Kept w (w'.setRow b cs) :=
  ⟨h.os, h.tape, h.output, by simp; exact h.size, fun k hk => (setRow_other w' b k cs (by omega)).trans (h.block k hk)⟩
set_option maxRecDepth 100000 in
set_option maxHeartbeats 1000000 in
theorem less_any (w : World) (x y : Nat) (hx : x < 4294967296) (hy : y < 4294967296) :
    Calls Tryd.prog 38 #[.agg (setC x), .agg (setC y)] w fun e w' => e = .returned (.agg (setC (lessN x y))) ∧ Kept w w' := by
  obtain ⟨z, hz⟩ : ∃ z, lessN x y = z := ⟨_, rfl⟩
  have hop : ∀ k, bits .andNot .u64 ((wd x k : Nat) : Int) ((wd y k : Nat) : Int) = ((wd z k : Nat) : Int) := fun k => by
    have h1 := wd_lt (i := k) (n := 32) hx
    have h2 := wd_lt (i := k) (n := 32) hy
    rw [bits_andNot (by omega) (by omega), wd_less, hz]
  rw [hz]
  clear hz hx hy
  have HT := Lib.hid (two_new w x y)
  go_enter Tryd.func38, Tryd.ntmps38
  go_wp2
  rw [← setC_zero]
  generalize ((w.alloc (.cells (setC x) 42)).alloc (.cells (setC y) 42)).alloc (.cells (setC 0) 42) = w1 at *
  generalize hb2 : w.heap.size = b2 at *
  generalize b2 + 1 = b3 at *
  generalize b3 + 1 = b4 at *
  clear hb2
  go_loopg [6] (32) (fun m i wz => ∃ k : Nat, m = 32 - k ∧ k ≤ 32 ∧ i = .int .i64 (k : Int) ∧ Hid (Two w wz b2 b3 b4 (upd x z k) y))
  case atStart => exact ⟨0, by omega, by omega, rfl, HT⟩
  case round =>
    clear HT
    obtain ⟨k, rfl, hk, rfl, HK⟩ := hrel
    by_cases hlt : k < 32
    · obtain ⟨c2, f2⟩ := HK.out.box.at k hlt
      obtain ⟨c3, -⟩ := HK.out.other.at k hlt
      rw [wd_upd] at c2
      rw [Nat.zero_add] at c2 c3 f2
      have hw0 : IntKind.i64.wrap (k : Int) = (k : Int) := IntWalk.i64_in _ (by omega)
      have hopk := hop k
      have hw := Same.drewN wr 1
      change Same wr wr.drew at hw
      have HN := Lib.hid (HK.out.step hlt hw)
      clear hop HK
      go_wp2
      refine wp_region_still_tail 8 (by kernel_rfl) (by kernel_rfl) ?_
      change wpStill _ _ wr.drew (fun a' => wpList _ _ _ _ a' wr.drew) _ _
      rw [← hw.cell] at c2 c3
      rw [← hw.frozen] at f2
      clear hw
      generalize wr.drew = w5 at *
      simp only [List.take_succ_cons, List.take_zero, List.drop_succ_cons, List.drop_zero]
      repeat still_step
      refine wpStill_nil ?_
      go_wp2
      go_roundg (32 - (k + 1))
      case measure => omega
      case rel => exact ⟨k + 1, rfl, by omega, by simp, HN⟩
    · obtain rfl : k = 32 := by omega
      have HB := HK.out.box
      have HR := HK.out.res
      rw [upd_pos _ _ (by decide)] at HB
      have HKr := Lib.hid (show Kept w (wr.setRow b4 (setC z)) from kept_row HK.out.kept (by have := HK.out.low; omega) HR)
      have HR2 : (wr.setRow b4 (setC z)).heap[b4]? = some (.cells (setC z) 42 (0, 0)) := setRow_heap wr b4 _ _ _ _ HR
      clear HK hop
      go_wp2_with (first | (refine wpList_load_row rfl _ _ rfl b2 rfl 42 (setC z) (0, 0) _ HB Tryd.underlying42 rfl (info42 z) ?_) | (refine wpList_store_row rfl _ _ _ rfl b4 (setC z) rfl rfl 42 (setC 0) HR (info42 z) (by rw [setC_size, setC_size]) (setC_one z) ?_))
      refine bodyPost_ret (results_cell_row rfl _ _ b4 42 (setC z) (0, 0) _ rfl HR2 Tryd.underlying42 rfl (info42 z)) rfl ⟨rfl, HKr.out⟩
set_option maxRecDepth 100000 in
set_option maxHeartbeats 1000000 in
theorem meet_any (w : World) (x y : Nat) (hx : x < 4294967296) (hy : y < 4294967296) :
    Calls Tryd.prog 40 #[.agg (setC x), .agg (setC y)] w fun e w' => e = .returned (.agg (setC (x &&& y))) ∧ Kept w w' := by
  obtain ⟨z, hz⟩ : ∃ z, x &&& y = z := ⟨_, rfl⟩
  have hop : ∀ k, bits .and .u64 ((wd x k : Nat) : Int) ((wd y k : Nat) : Int) = ((wd z k : Nat) : Int) := fun k => by
    have h1 := wd_lt (i := k) (n := 32) hx
    have h2 := wd_lt (i := k) (n := 32) hy
    rw [bits_and_u64_nat _ _ (by omega) (by omega), wd_and, hz]
  rw [hz]
  clear hz hx hy
  have HT := Lib.hid (two_new w x y)
  go_enter Tryd.func40, Tryd.ntmps40
  go_wp2
  rw [← setC_zero]
  generalize ((w.alloc (.cells (setC x) 42)).alloc (.cells (setC y) 42)).alloc (.cells (setC 0) 42) = w1 at *
  generalize hb2 : w.heap.size = b2 at *
  generalize b2 + 1 = b3 at *
  generalize b3 + 1 = b4 at *
  clear hb2
  go_loopg [6] (32) (fun m i wz => ∃ k : Nat, m = 32 - k ∧ k ≤ 32 ∧ i = .int .i64 (k : Int) ∧ Hid (Two w wz b2 b3 b4 (upd x z k) y))
  case atStart => exact ⟨0, by omega, by omega, rfl, HT⟩
  case round =>
    clear HT
    obtain ⟨k, rfl, hk, rfl, HK⟩ := hrel
    by_cases hlt : k < 32
    · obtain ⟨c2, f2⟩ := HK.out.box.at k hlt
      obtain ⟨c3, -⟩ := HK.out.other.at k hlt
      rw [wd_upd] at c2
      rw [Nat.zero_add] at c2 c3 f2
      have hw0 : IntKind.i64.wrap (k : Int) = (k : Int) := IntWalk.i64_in _ (by omega)
      have hopk := hop k
      have hw := Same.drewN wr 1
      change Same wr wr.drew at hw
      have HN := Lib.hid (HK.out.step hlt hw)
      clear hop HK
      go_wp2
      refine wp_region_still_tail 8 (by kernel_rfl) (by kernel_rfl) ?_
      change wpStill _ _ wr.drew (fun a' => wpList _ _ _ _ a' wr.drew) _ _
      rw [← hw.cell] at c2 c3
      rw [← hw.frozen] at f2
      clear hw
      generalize wr.drew = w5 at *
      simp only [List.take_succ_cons, List.take_zero, List.drop_succ_cons, List.drop_zero]
      repeat still_step
      refine wpStill_nil ?_
      go_wp2
      go_roundg (32 - (k + 1))
      case measure => omega
      case rel => exact ⟨k + 1, rfl, by omega, by simp, HN⟩
    · obtain rfl : k = 32 := by omega
      have HB := HK.out.box
      have HR := HK.out.res
      rw [upd_pos _ _ (by decide)] at HB
      have HKr := Lib.hid (show Kept w (wr.setRow b4 (setC z)) from kept_row HK.out.kept (by have := HK.out.low; omega) HR)
      have HR2 : (wr.setRow b4 (setC z)).heap[b4]? = some (.cells (setC z) 42 (0, 0)) := setRow_heap wr b4 _ _ _ _ HR
      clear HK hop
      go_wp2_with (first | (refine wpList_load_row rfl _ _ rfl b2 rfl 42 (setC z) (0, 0) _ HB Tryd.underlying42 rfl (info42 z) ?_) | (refine wpList_store_row rfl _ _ _ rfl b4 (setC z) rfl rfl 42 (setC 0) HR (info42 z) (by rw [setC_size, setC_size]) (setC_one z) ?_))
      refine bodyPost_ret (results_cell_row rfl _ _ b4 42 (setC z) (0, 0) _ rfl HR2 Tryd.underlying42 rfl (info42 z)) rfl ⟨rfl, HKr.out⟩
theorem ones_wd (x i : Nat) : (bitsL (wd x i)).length = if i = 0 then (bitsL x).length else 0 := by
  unfold wd
  split
  · rfl
  · rw [bitsL_zero]; rfl
/-- How many are in the first k words. -/
def upC (x k : Nat) : Nat := if k = 0 then 0 else (bitsL x).length
theorem upC_step (x k : Nat) : upC x k + (bitsL (wd x k)).length = upC x (k + 1) := by rw [ones_wd]; unfold upC; split <;> simp_all
theorem upC_le (x k : Nat) : upC x k ≤ 64 := by unfold upC; split; omega; exact bitsL_len x
theorem index_set (w : World) (x k : Nat) (hk : k < 32) : (Instr.index 42 (.agg (setC x)) (.int .i64 (k : Int))).run Tryd.prog w = .ok (.int .u64 (wd x k : Nat)) w := by
  have h1 := setC_at x k hk
  have h2 := setC_size x
  have h3 : (0 : Int) ≤ (k : Int) ∧ (k : Int) < (32 : Int) := by omega
  simp [Instr.index, asIntOf, run_underlying (Tryd.underlying42), Tryd.sizeOf40, h3, part, hk, h1]
set_option maxRecDepth 100000 in
set_option maxHeartbeats 1000000 in
theorem count_any (w : World) (x : Nat) (hx : x < 4294967296) :
    Calls Tryd.prog 39 #[.agg (setC x)] w fun e w' => e = .returned (.int .i64 ((bitsL x).length : Nat)) ∧ Kept w w' := by
  have HB := Lib.hid (Box.new w x)
  have HB0 := HB.out
  have HC := Lib.hid (fun k (hk : k < 32) => setC_at x k hk)
  have H1 := Lib.hid (fun W k => ones_any W (wd x k) (wd_lt (n := 32) hx))
  have H2 := Lib.hid (upC_step x)
  have H3 := Lib.hid (upC_le x)
  have HK := Lib.hid ((Kept.refl w).alloc (.cells (setC x) 42))
  go_enter Tryd.func39, Tryd.ntmps39
  go_wp2_with (refine wpList_load_row rfl _ _ rfl w.heap.size rfl 42 (setC x) (0, 0) _ HB0 Tryd.underlying42 rfl (info42 x) ?_)
  clear HB0
  go_loopg [3, 7] (32) (fun m n i wz => ∃ k : Nat, m = 32 - k ∧ k ≤ 32 ∧ n = .int .i64 (upC x k : Nat) ∧ i = .int .i64 (k : Int) ∧ Hid (Kept w wz))
  case atStart => exact ⟨0, by omega, by omega, rfl, rfl, HK⟩
  case round =>
    clear HK
    obtain ⟨k, rfl, hk, rfl, rfl, HK⟩ := hrel
    by_cases hlt : k < 32
    · have hc := HC.out k hlt
      have h2 := H2.out k
      have h3 := H3.out (k + 1)
      have hix := fun W => index_set W x k hlt
      obtain ⟨n, hn⟩ : ∃ n, (bitsL (wd x k)).length = n := ⟨_, rfl⟩
      have H1k := Lib.hid (fun W => H1.out W k)
      rw [hn] at h2 H1k
      clear hn H1 H2
      have Hq := Lib.hid h2
      rw [← h2] at h3
      clear h2
      go_wp2_with (go_at_call 42; refine (H1k.out _).mono ?_; rintro e w1 ⟨rfl, rfl⟩)
      go_roundg (32 - (k + 1))
      case measure => omega
      case rel => exact ⟨k + 1, rfl, by omega, by rw [← Hq.out]; simp, by simp, HK⟩
    · obtain rfl : k = 32 := by omega
      clear H1 H2 H3
      go_wp2
      go_ret
      exact ⟨rfl, HK.out⟩
/-- Setting a word to what it is changes nothing. -/
theorem set_same {w : World} {b o : Nat} {v : Value} (h : w.cell? ⟨b, o, none⟩ = some v) (hf : w.frozen? ⟨b, o, none⟩ = false) : w.setCell ⟨b, o, none⟩ v = w := by
  cases hb : w.heap[b]? with
  | none => simp [World.cell?, hb] at h
  | some ob =>
    cases ob with
    | cells cs t fr =>
      have hc : cs[o]? = some v := by simpa [World.cell?, hb] using h
      have hlt : b < w.heap.size := (Array.getElem?_eq_some_iff.1 hb).1
      obtain ⟨h1, h2⟩ := Array.getElem?_eq_some_iff.1 hc
      have e : cs.setIfInBounds o v = cs := by
        apply Array.ext (by simp)
        intro i hi1 hi2
        rw [Array.getElem_setIfInBounds]
        split
        · rename_i e; subst e; exact h2.symm
        · rfl
      have e2 : (w.heap.modify b fun | .cells c elem frozen => .cells (c.setIfInBounds o v) elem frozen | o => o) = w.heap := by
        apply Array.ext (by simp)
        intro i hi1 hi2
        rw [Array.getElem_modify]
        split
        · rename_i e3
          subst e3
          rw [(Array.getElem?_eq_some_iff.1 hb).2]
          simp only [e]
        · rfl
      have e3 : w.setCell ⟨b, o, none⟩ v = { w with heap := w.heap.modify b fun | .cells c elem frozen => .cells (c.setIfInBounds o v) elem frozen | o => o } := rfl
      rw [e3, e2]
    | _ => simp [World.cell?, hb] at h
theorem SetAt.chg {S : Nat → Prop} {w w' : World} {b o x : Nat} (h : SetAt w b o x) (hc : Chg S w w') (hn : ¬ S b) : SetAt w' b o x := fun i hi => by
  obtain ⟨h1, h2⟩ := h i hi
  have hb := hc.block b (World.block_lt_of_cell? w _ h1) hn
  exact ⟨(World.cell?_of_block (a := ⟨b, o + i, none⟩) hb).trans h1, by unfold World.frozen? at h2 ⊢; simp only [hb]; exact h2⟩
theorem Box.chg {S : Nat → Prop} {w w' : World} {b x : Nat} (h : Box w b x) (hc : Chg S w w') (hn : ¬ S b) : Box w' b x := hc.heap h hn
theorem box_set {w w' : World} {b x z : Nat} (h : Box w b x) (hs : Same (w.setCell ⟨b, 0, none⟩ (.int .u64 (z : Int))) w') : Chg (fun k => k = b) w w' ∧ Box w' b z :=
  ⟨(chg_set w b 0 _).then hs.chg, h.put.same hs⟩
theorem box_add (w : World) (b x k : Nat) (hx : x < 18446744073709551616) (hk : k < 64) (hs : Box w b x) :
    Calls Tryd.prog 35 #[.pointer (some ⟨b, 0, none⟩), .int .i64 (k : Int)] w fun e w' => e = .returned (.tuple #[]) ∧ Hid (Chg (fun k => k = b) w w' ∧ Box w' b (x ||| 2 ^ k)) :=
  (add_any w b 0 x k hx hk hs.at).mono fun _ _ h => ⟨h.1, Lib.hid (box_set hs h.2)⟩
theorem box_drop (w : World) (b x k : Nat) (hx : x < 18446744073709551616) (hk : k < 64) (hs : Box w b x) :
    Calls Tryd.prog 41 #[.pointer (some ⟨b, 0, none⟩), .int .i64 (k : Int)] w fun e w' => e = .returned (.tuple #[]) ∧ Hid (Chg (fun k => k = b) w w' ∧ Box w' b (lessN x (2 ^ k))) :=
  (drop_any w b 0 x k hx hk hs.at).mono fun _ _ h => ⟨h.1, Lib.hid (box_set hs h.2)⟩
structure Jn (w W : World) (b c o x y : Nat) : Prop where
  chg : Chg (fun k => k = b) w W
  box : Box W b x
  other : SetAt W c o y
set_option maxRecDepth 100000 in
set_option maxHeartbeats 1000000 in
theorem join_any (w : World) (b c o x y : Nat) (hx : x < 4294967296) (hy : y < 4294967296) (hb : Box w b x) (hc : SetAt w c o y) (hn : c ≠ b) :
    Calls Tryd.prog 37 #[.pointer (some ⟨b, 0, none⟩), .pointer (some ⟨c, o, none⟩)] w fun e w' => e = .returned (.tuple #[]) ∧ Hid (Chg (fun k => k = b) w w' ∧ Box w' b (x ||| y)) := by
  obtain ⟨z, hz⟩ : ∃ z, x ||| y = z := ⟨_, rfl⟩
  have hop : ∀ k, bits .or .u64 ((wd x k : Nat) : Int) ((wd y k : Nat) : Int) = ((wd z k : Nat) : Int) := fun k => by
    have h1 := wd_lt (i := k) (n := 32) hx
    have h2 := wd_lt (i := k) (n := 32) hy
    rw [bits_or_u64_nat _ _ (by omega) (by omega), wd_or, hz]
  rw [hz]
  clear hz hx hy
  have HT : Hid (Jn w w b c o (upd x z 0) y) := Lib.hid ⟨Chg.refl _ _, hb, hc⟩
  clear hb hc
  go_enter Tryd.func37, Tryd.ntmps37
  go_wp2
  go_loopg [5] (32) (fun m i wz => ∃ k : Nat, m = 32 - k ∧ k ≤ 32 ∧ i = .int .i64 (k : Int) ∧ Hid (Jn w wz b c o (upd x z k) y))
  case atStart => exact ⟨0, by omega, by omega, rfl, HT⟩
  case round =>
    clear HT
    obtain ⟨k, rfl, hk, rfl, HK⟩ := hrel
    by_cases hlt : k < 32
    · obtain ⟨c2, f2⟩ := HK.out.box.at k hlt
      obtain ⟨c3, -⟩ := HK.out.other k hlt
      rw [wd_upd] at c2
      rw [Nat.zero_add] at c2 f2
      have hw0 : IntKind.i64.wrap (k : Int) = (k : Int) := IntWalk.i64_in _ (by omega)
      have hopk := hop k
      have hw := Same.drewN wr 1
      change Same wr wr.drew at hw
      have HN : Hid (Jn w (wr.drew.setCell ⟨b, k, none⟩ (.int .u64 (wd z k : Nat))) b c o (upd x z (k + 1)) y) := Lib.hid ⟨(HK.out.chg.then hw.chg).then (chg_set _ _ _ _), (HK.out.box.same hw).set hlt, (HK.out.other.chg (hw.chg (S := fun _ => False)) id).chg (chg_set _ b k _) hn⟩
      clear hop HK
      go_wp2
      refine wp_region_still_tail 12 (by kernel_rfl) (by kernel_rfl) ?_
      change wpStill _ _ wr.drew (fun a' => wpList _ _ _ _ a' wr.drew) _ _
      rw [← hw.cell] at c2 c3
      rw [← hw.frozen] at f2
      clear hw
      generalize wr.drew = w5 at *
      simp only [List.take_succ_cons, List.take_zero, List.drop_succ_cons, List.drop_zero]
      repeat still_step
      refine wpStill_nil ?_
      go_wp2
      go_roundg (32 - (k + 1))
      case measure => omega
      case rel => exact ⟨k + 1, rfl, by omega, by simp, HN⟩
    · obtain rfl : k = 32 := by omega
      have HB := HK.out.box
      rw [upd_pos _ _ (by decide)] at HB
      have HC := HK.out.chg
      clear HK hop
      go_wp2
      go_end0
      exact ⟨rfl, Lib.hid ⟨HC, HB⟩⟩
end Go.Proofs.YtpkebokfbigggaaDoor.Shp
