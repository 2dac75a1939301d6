/-
  Package shape: a graph as a slice of sets; read.
-/
import Derived.Test.YtpkebokfbigggaaDoorShqA
import Derived.Test.YtpkebokfbigggaaDoorShpB
namespace Go.Proofs.YtpkebokfbigggaaDoor.Shp
open Go.RowKit
open Classical

/-- A slice of sets of its own. -/
def Gs (w : World) (b : Nat) (X : List Nat) : Prop :=
  ∃ cs, w.heap[b]? = some (.cells cs 42 (0, 0)) ∧ cs.size = X.length * 32 ∧ ∀ j (h : j < X.length) i, i < 32 → cs[j * 32 + i]? = some (.int .u64 (wd X[j] i : Nat))
theorem Gs.at {w : World} {b : Nat} {X : List Nat} (h : Gs w b X) {j : Nat} (hj : j < X.length) : SetAt w b (j * 32) X[j] := fun i hi => by
  obtain ⟨cs, h1, h2, h3⟩ := h
  exact ⟨bx_cell h1 _ _ (h3 j hj i hi), bx_froz h1 _⟩
theorem Gs.lt {w : World} {b : Nat} {X : List Nat} (h : Gs w b X) : b < w.heap.size := by obtain ⟨cs, h1, _⟩ := h; exact (Array.getElem?_eq_some_iff.1 h1).1
theorem Gs.chg {S : Nat → Prop} {w w' : World} {b : Nat} {X : List Nat} (h : Gs w b X) (hc : Chg S w w') (hn : ¬ S b) : Gs w' b X := by
  obtain ⟨cs, h1, h2⟩ := h
  exact ⟨cs, hc.heap h1 hn, h2⟩
theorem Gs.kept {w w' : World} {b : Nat} {X : List Nat} (h : Gs w b X) (hk : Kept w w') : Gs w' b X := h.chg (S := fun _ => False) (Chg.of_kept hk) id
theorem Gs.same {w w' : World} {b : Nat} {X : List Nat} (h : Gs w b X) (hs : Same w w') : Gs w' b X := h.kept hs.kept
theorem Gs.set {w : World} {b : Nat} {X : List Nat} (h : Gs w b X) {j : Nat} (hj : j < X.length) (z : Nat) : Gs (w.setCell ⟨b, j * 32, none⟩ (.int .u64 (z : Int))) b (X.set j z) := by
  obtain ⟨cs, h1, h2, h3⟩ := h
  refine ⟨_, heap_setCell_same _ _ _ _ _ _ h1, by simp [h2], fun k hk i hi => ?_⟩
  rw [List.length_set] at hk
  rw [Array.getElem?_setIfInBounds, List.getElem_set]
  by_cases e : j * 32 = k * 32 + i
  · have e1 : j = k := by omega
    have e2 : i = 0 := by omega
    subst e1 e2
    rw [if_pos e, if_pos (by omega), if_pos rfl]; rfl
  · rw [if_neg e, h3 k hk i hi]
    by_cases e1 : j = k
    · subst e1
      rw [if_pos rfl, wd_pos _ (by omega), wd_pos _ (by omega)]
    · rw [if_neg e1]
theorem set_inf : (Tryd.prog.info? 42).map (fun i => (i.zero, i.size, i.bytes)) = some (some (.agg (setC 0)), 32, 256) := by kernel_rfl
theorem made_sets (t : TypeId) (ht : Tryd.prog.underlying t = some (.slice 42)) (n : Nat) (h : n ≤ 2000) (w : World) : (Instr.makeSlice t (.int .i64 (n : Int)) (.int .i64 (n : Int))).run Tryd.prog w = .ok (.slice (some ⟨w.heap.size, 0, none⟩) n n) (w.alloc (.cells (madeCells (setC 0) (n * 32)) 42)) := by
  obtain ⟨i0, hi0, hz0, hz1, hz2⟩ := info_parts set_inf
  have := run_make (P := Tryd.prog) w t 42 i0 _ ht hi0 hz0 .i64 .i64 n n (by omega) (by omega) (by rw [hz2]; omega) (by omega)
  rw [hz1, Int.toNat_natCast] at this
  exact this
theorem gs_made (w : World) (n : Nat) : Gs (w.alloc (.cells (madeCells (setC 0) (n * 32)) 42)) w.heap.size (List.replicate n 0) := by
  refine ⟨_, heap_alloc_new _ _, by rw [size_madeCells]; simp, fun j hj i hi => ?_⟩
  rw [List.length_replicate] at hj
  have hlt : j * 32 + i < n * 32 := by omega
  unfold madeCells
  rw [Array.getElem?_map, Array.getElem?_range, if_pos hlt]
  have e : (j * 32 + i) % (setC 0).size = i := by rw [setC_size]; omega
  have h1 := setC_at 0 i hi
  simp only [Option.map_some, e, List.getElem_replicate]
  rw [getElem!_def, h1]

/-! What is read. -/
noncomputable def xeN (g : Gr) (a : Nat) : Nat := setN g.length fun b => decide (edge g a b)
noncomputable def xeL (g : Gr) : List Nat := (List.range g.length).map (xeN g)
def rowB (n : Nat) (l : List Int) : Nat := l.foldl (fun (s : Nat) (e : Int) => if 0 ≤ e ∧ e < (n : Int) then s ||| 2 ^ e.toNat else s) 0
theorem rowB_snoc (n : Nat) (l : List Int) (e : Int) : rowB n (l ++ [e]) = if 0 ≤ e ∧ e < (n : Int) then rowB n l ||| 2 ^ e.toNat else rowB n l := by simp [rowB, List.foldl_append]
theorem foldB_bit (n : Nat) (l : List Int) : ∀ (s i : Nat), (l.foldl (fun (s : Nat) (e : Int) => if 0 ≤ e ∧ e < (n : Int) then s ||| 2 ^ e.toNat else s) s).testBit i = (s.testBit i || (decide (i < n) && decide ((i : Int) ∈ l))) := by
  induction l with
  | nil => intro s i; simp
  | cons e l ih =>
    intro s i
    rw [List.foldl_cons, ih]
    split
    · rename_i h
      rw [or_two_pow_bit, Bool.eq_iff_iff]
      simp only [Bool.or_eq_true, Bool.and_eq_true, decide_eq_true_eq, List.mem_cons]
      constructor
      · rintro ((h1 | h1) | ⟨h1, h2⟩)
        · exact .inl h1
        · exact .inr ⟨by omega, .inl (by omega)⟩
        · exact .inr ⟨h1, .inr h2⟩
      · rintro (h1 | ⟨h1, h2 | h2⟩)
        · exact .inl (.inl h1)
        · exact .inl (.inr (by omega))
        · exact .inr ⟨h1, h2⟩
    · rename_i h
      rw [Bool.eq_iff_iff]
      simp only [Bool.or_eq_true, Bool.and_eq_true, decide_eq_true_eq, List.mem_cons]
      constructor
      · rintro (h1 | ⟨h1, h2⟩)
        · exact .inl h1
        · exact .inr ⟨h1, .inr h2⟩
      · rintro (h1 | ⟨h1, h2 | h2⟩)
        · exact .inl h1
        · omega
        · exact .inr ⟨h1, h2⟩
theorem rowB_bit (n : Nat) (l : List Int) (i : Nat) : (rowB n l).testBit i = (decide (i < n) && decide ((i : Int) ∈ l)) := by
  unfold rowB
  rw [foldB_bit]; simp
theorem rowB_is {g : Gr} {a : Nat} (ha : a < g.length) : rowB g.length (row g a) = xeN g a := by
  unfold xeN
  refine setN_eq fun i => ?_
  rw [rowB_bit, Bool.eq_iff_iff]
  simp only [Bool.and_eq_true, decide_eq_true_eq]
  exact ⟨fun h => ⟨h.1, ha, h.1, h.2⟩, fun h => ⟨h.1, h.2.2.2⟩⟩
theorem rowB_lt {n : Nat} (l : List Int) {m : Nat} (h : n ≤ m) : rowB n l < 2 ^ m := Nat.lt_pow_two_of_testBit _ fun i hi => by rw [rowB_bit]; simp; omega
noncomputable def xp (g : Gr) (a k : Nat) : List Nat := (List.range g.length).map fun j => if j < a then xeN g j else if j = a then rowB g.length ((row g j).take k) else 0
theorem xp_len (g : Gr) (a k : Nat) : (xp g a k).length = g.length := by simp [xp]
theorem xp_at {g : Gr} {a k : Nat} (ha : a < (xp g a k).length) : (xp g a k)[a] = rowB g.length ((row g a).take k) := by simp [xp]
theorem xp_zero (g : Gr) : xp g 0 0 = List.replicate g.length 0 := by
  apply List.ext_getElem (by simp [xp])
  intro i h1 h2
  simp only [xp, List.getElem_map, List.getElem_range, List.getElem_replicate, List.take_zero]
  rw [if_neg (by omega)]
  split <;> simp [rowB]
theorem xp_row {g : Gr} {a : Nat} (ha : a < g.length) {k : Nat} (hk : (row g a).length ≤ k) : xp g a k = xp g (a + 1) 0 := by
  apply List.ext_getElem (by simp [xp])
  intro i h1 h2
  simp only [xp, List.getElem_map, List.getElem_range, List.take_zero]
  by_cases e : i < a
  · rw [if_pos e, if_pos (by omega)]
  · rw [if_neg e]
    by_cases e2 : i = a
    · subst e2
      rw [if_pos rfl, if_pos (by omega), List.take_of_length_le hk, rowB_is ha]
    · rw [if_neg e2, if_neg (by omega)]
      split <;> simp [rowB]
theorem xp_end (g : Gr) : xp g g.length 0 = xeL g := by
  unfold xp xeL
  apply List.map_congr_left
  intro i hi
  rw [if_pos (List.mem_range.1 hi)]
theorem xp_in {g : Gr} {a k : Nat} (ha : a < g.length) (hk : k < (row g a).length) (h : 0 ≤ (row g a)[k] ∧ (row g a)[k] < (g.length : Int)) :
    (xp g a k).set a (rowB g.length ((row g a).take k) ||| 2 ^ ((row g a)[k]).toNat) = xp g a (k + 1) := by
  apply List.ext_getElem (by simp [xp])
  intro i h1 h2
  rw [List.getElem_set]
  by_cases e : a = i
  · subst e
    rw [if_pos rfl, xp_at (by rw [xp_len]; exact ha), List.take_add_one, List.getElem?_eq_getElem hk]
    simp only [Option.toList_some]
    rw [rowB_snoc, if_pos h]
  · rw [if_neg e]
    simp only [xp, List.getElem_map, List.getElem_range]
    split
    · rfl
    · rw [if_neg (by omega), if_neg (by omega)]
theorem xp_out {g : Gr} {a k : Nat} (hk : k < (row g a).length) (h : ¬ (0 ≤ (row g a)[k] ∧ (row g a)[k] < (g.length : Int))) : xp g a k = xp g a (k + 1) := by
  apply List.ext_getElem (by simp [xp])
  intro i h1 h2
  simp only [xp, List.getElem_map, List.getElem_range]
  split
  · rfl
  · split
    · rename_i e
      subst e
      rw [List.take_add_one (i := k), List.getElem?_eq_getElem hk]
      simp only [Option.toList_some]
      rw [rowB_snoc, if_neg h]
    · rfl
structure Rd (w W : World) (b : Nat) (X : List Nat) : Prop where
  kept : Kept w W
  low : w.heap.size ≤ b
  gs : Gs W b X
theorem Rd.add {w W W' : World} {b a z : Nat} {X : List Nat} (h : Rd w W b X) (ha : a < X.length) (hs : Same (W.setCell ⟨b, a * 32, none⟩ (.int .u64 (z : Int))) W') : Rd w W' b (X.set a z) :=
  ⟨(h.kept.setCell h.low _).trans hs.kept, h.low, (h.gs.set ha z).same hs⟩
set_option maxRecDepth 100000 in
set_option maxHeartbeats 4000000 in
theorem read_any (w : World) (v : Value) (g : Gr) (hg : GraphAt w v g) (hl : g.length ≤ 30) :
    Calls Tryd.prog 23 #[v] w fun e w' => ∃ b, e = .returned (.tuple #[.slice (some ⟨b, 0, none⟩) g.length g.length, .bool true]) ∧ Hid (Rd w w' b (xeL g)) := by
  obtain ⟨ga, gc, rfl⟩ := hg.form
  have hm := made_sets 36 Tryd.underlying36 g.length (by omega)
  have HG := Lib.hid hg
  have hst : Hid (Rd w (w.alloc (.cells (madeCells (setC 0) (g.length * 32)) 42)) w.heap.size (xp g 0 0)) := Lib.hid ⟨(Kept.refl w).alloc _, Nat.le_refl _, by rw [xp_zero]; exact gs_made w g.length⟩
  clear hg
  go_enter Tryd.func23, Tryd.ntmps23
  go_wp2
  clear hm
  generalize w.alloc (.cells (madeCells (setC 0) (g.length * 32)) 42) = w1 at *
  generalize w.heap.size = b at *
  go_loopg [17] (g.length) (fun m i wz => ∃ a : Nat, m = g.length - a ∧ a ≤ g.length ∧ i = .int .i64 (a : Int) ∧ Hid (Rd w wz b (xp g a 0)))
  case atStart => exact ⟨0, by omega, by omega, rfl, hst⟩
  case round =>
    clear hst
    rename World => wo
    obtain ⟨a, rfl, ha, rfl, HK⟩ := hrel
    by_cases hlt : a < g.length
    case neg =>
      obtain rfl : a = g.length := by omega
      rw [xp_end] at HK
      go_wp2
      exact bodyPost_ret (results_tmp2 rfl _ _ _) rfl ⟨_, rfl, HK⟩
    case pos =>
      obtain ⟨x, rb, rd, rfl, h1, h2, hc0, hrow, hwf⟩ := HG.out.at hlt
      have hc := (World.cell?_of_block (HK.out.kept.block _ (World.block_lt_of_cell? w _ hc0))).trans hc0
      clear hc0
      simp only [maxLen] at h2
      have hrl := hrow.small
      simp only [maxLen] at hrl
      have HR := Lib.hid hrow
      have HW := Lib.hid hwf
      clear hrow hwf
      go_wp2
      go_loopg [24] ((row g a).length) (fun m i wz => ∃ k : Nat, m = (row g a).length - k ∧ k ≤ (row g a).length ∧ i = .int .i64 (k : Int) ∧ Hid (Rd w wz b (xp g a k)))
      case atStart => exact ⟨0, by omega, by omega, rfl, HK⟩
      case round =>
        clear HK
        obtain ⟨k, rfl, hk, rfl, HK⟩ := hrel
        by_cases hlk : k < (row g a).length
        case neg =>
          obtain rfl : k = (row g a).length := by omega
          rw [xp_row hlt (Nat.le_refl _)] at HK
          clear hlk
          go_wp2
          go_roundg (g.length - (a + 1))
          case measure => omega
          case rel => exact ⟨a + 1, rfl, by omega, by simp, HK⟩
        case pos =>
          obtain ⟨y, e, -, -, hcy⟩ := (HR.out.kept HK.out.kept).at hlk
          subst e
          have hyb := HW.out.at hlk
          have HIn := Lib.hid (fun h => xp_in (g := g) (a := a) (k := k) hlt hlk h)
          have HOut := Lib.hid (fun h => xp_out (g := g) (a := a) (k := k) hlk h)
          generalize hy : (row g a)[k] = z at *
          clear hy
          have HWi := Lib.hid (fun W => within_any W z g.length)
          simp only [vi] at hcy
          by_cases hin : 0 ≤ z ∧ z < (g.length : Int)
          · obtain ⟨q, rfl⟩ : ∃ q : Nat, z = q := ⟨z.toNat, by omega⟩
            have HI := Lib.hid (HIn.out hin)
            rw [Int.toNat_natCast] at HI
            have hxl : a < (xp g a k).length := by rw [xp_len]; exact hlt
            have hA := add_any wr b (a * 32) (xp g a k)[a] q (by rw [xp_at hxl]; exact rowB_lt (m := 64) _ (by omega)) (by omega) (HK.out.gs.at hxl)
            rw [decide_eq_true hin] at HWi
            have HA := Lib.hid hA
            rw [xp_at hxl] at HA
            have HK2 := Lib.hid (fun (z : Nat) W' h => HK.out.add (z := z) (W' := W') hxl h)
            clear hA HIn HOut hin
            go_wp2_with (first | (go_at_call 30; refine (HWi.out _).mono ?_; rintro e w1 ⟨rfl, rfl⟩) | (go_at_call 35; refine (HA.out).mono ?_; rintro e w5 ⟨rfl, H5⟩; have H6 := Lib.hid (HK2.out _ _ H5); rw [HI.out] at H6; clear H5))
            go_roundg ((row g a).length - (k + 1))
            case measure => omega
            case rel => exact ⟨k + 1, rfl, by omega, by simp, H6⟩
          · have HO := HOut.out hin
            rw [HO] at HK
            rw [decide_eq_false hin] at HWi
            clear HIn HOut hin
            go_wp2_with (go_at_call 30; refine (HWi.out _).mono ?_; rintro e w1 ⟨rfl, rfl⟩)
            go_roundg ((row g a).length - (k + 1))
            case measure => omega
            case rel => exact ⟨k + 1, rfl, by omega, by simp, HK⟩
end Go.Proofs.YtpkebokfbigggaaDoor.Shp
