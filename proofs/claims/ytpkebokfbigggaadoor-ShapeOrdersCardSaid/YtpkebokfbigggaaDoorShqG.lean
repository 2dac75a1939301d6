/-
  Package shape: dominators.
-/
import Derived.Test.YtpkebokfbigggaaDoorShqF
import Derived.Test.YtpkebokfbigggaaDoorShqH
namespace Go.Proofs.YtpkebokfbigggaaDoor.Shp
open Go.RowKit Go.Shelf
open Classical
attribute [local go_sem] Oper.semAt_some

/-! Plain. -/
/-- Of each b the set of those a that P holds of. -/
def byL (n : Nat) (P : Nat → Nat → Bool) : List Nat := (List.range n).map fun b => setN n fun a => P a b
theorem byL_len (n : Nat) (P : Nat → Nat → Bool) : (byL n P).length = n := by simp [byL]
theorem byL_at {n j : Nat} {P : Nat → Nat → Bool} (h : j < (byL n P).length) : (byL n P)[j] = setN n fun a => P a j := by simp [byL]
theorem byL_congr {n : Nat} {P Q : Nat → Nat → Bool} (h : ∀ a b, a < n → b < n → P a b = Q a b) : byL n P = byL n Q := by
  unfold byL
  apply List.map_congr_left
  intro b hb
  exact setN_congr fun a ha => h a b ha (List.mem_range.1 hb)
theorem byL_none {n : Nat} {P : Nat → Nat → Bool} (h : ∀ a b, P a b = false) : byL n P = List.replicate n 0 := by
  apply List.ext_getElem (by simp [byL])
  intro j h1 h2
  rw [byL_at, List.getElem_replicate]
  exact setN_none fun i _ => h i j
theorem byL_set {n i j : Nat} (hi : i < n) (hj : j < n) (P : Nat → Nat → Bool) : (byL n P).set j ((setN n fun a => P a j) ||| 2 ^ i) = byL n fun a b => P a b || (decide (a = i) && decide (b = j)) := by
  apply List.ext_getElem (by simp [byL])
  intro k h1 h2
  rw [List.getElem_set]
  by_cases e : j = k
  · subst e
    rw [if_pos rfl, byL_at]
    refine setN_eq fun q => ?_
    rw [or_two_pow_bit, setN_bit]
    by_cases e2 : q = i
    · subst e2; simp [hi]
    · simp [e2, Ne.symm e2]
  · rw [if_neg e, byL_at, byL_at]
    exact setN_congr fun a _ => by simp [Ne.symm e]
noncomputable def dmB (g : Gr) (f : Int) (a b : Nat) : Bool := decide (0 ≤ f ∧ Re g f.toNat b ∧ Dom g f.toNat a b)
noncomputable def domL (g : Gr) (f : Int) : List Nat := byL g.length (dmB g f)
/-- Those that are reached no more without i: those that i dominates. -/
theorem lost_is {g : Gr} {f : Int} (hl : g.length ≤ 64) {i b : Nat} (hi : i ∈ bitsL (rN g f 0)) : b ∈ bitsL (lessN (rN g f 0) (rN g f (2 ^ i))) ↔ dmB g f i b = true := by
  have e := Nat.pow_le_pow_right (n := 2) (by decide) hl
  have hr : In (rN g f 0) i := (mem_bitsL (Nat.lt_of_lt_of_le (rN_lt g f 0) e)).1 hi
  have hr' := hr
  unfold rN at hr'
  rw [in_setN, decide_eq_true_eq, rW_zero] at hr'
  obtain ⟨h1, h2, h3⟩ := hr'
  rw [mem_bitsL (Nat.lt_of_lt_of_le (lessN_lt (rN_lt g f 0)) e)]
  show In _ b ↔ _
  rw [in_less hl (rN_lt _ _ _) (rN_lt _ _ _)]
  unfold rN dmB
  rw [in_setN, in_setN, decide_eq_true_eq, decide_eq_true_eq, decide_eq_true_eq, rW_zero]
  have hav : RW g f.toNat (In (2 ^ i)) b ↔ Av g f.toNat i b := ⟨RW.mono fun x hx => by rw [in_pow]; exact hx.symm, RW.mono fun x hx => by rw [in_pow] at hx; exact hx.symm⟩
  rw [hav]
  constructor
  · rintro ⟨⟨k1, k2, k3⟩, k4⟩
    refine ⟨k2, k3, ?_⟩
    by_cases e2 : i = b
    · exact .inl e2
    · exact .inr ⟨e2, k3, fun k => k4 ⟨k1, k2, k⟩⟩
  · rintro ⟨k1, k2, k3⟩
    refine ⟨⟨k2.lt, k1, k2⟩, fun k => ?_⟩
    rcases k3 with k3 | k3
    · subst k3; exact k.2.2.ok rfl
    · exact k3.2.2 k.2.2
theorem dom_re {g : Gr} {f : Int} {a b : Nat} (h : dmB g f a b = true) : ReI g f a := by
  unfold dmB at h
  rw [decide_eq_true_eq] at h
  obtain ⟨h1, h2, h3⟩ := h
  rcases h3 with e | h3
  · subst e; exact ⟨h1, h2⟩
  · exact ⟨h1, h3.lt⟩
theorem mem_rN {g : Gr} {f : Int} (hl : g.length ≤ 64) {i : Nat} : i ∈ bitsL (rN g f 0) ↔ ReI g f i := by
  rw [mem_bitsL (Nat.lt_of_lt_of_le (rN_lt g f 0) (Nat.pow_le_pow_right (by decide) hl))]
  show In _ i ↔ _
  unfold rN
  rw [in_setN, decide_eq_true_eq, rW_zero]
  exact ⟨fun h => h.2, fun h => ⟨h.2.lt, h⟩⟩
/-- What stands when the rounds for pre are over. -/
noncomputable def dmP (g : Gr) (f : Int) (pre : List Nat) (a b : Nat) : Bool := decide (a ∈ pre) && dmB g f a b
/-- .. and of the round for i those for pre'. -/
noncomputable def dmQ (g : Gr) (f : Int) (pre : List Nat) (i : Nat) (pre' : List Nat) (a b : Nat) : Bool := dmP g f pre a b || (decide (a = i) && decide (b ∈ pre'))
theorem dmQ_nil (g : Gr) (f : Int) (pre : List Nat) (i : Nat) : byL g.length (dmQ g f pre i []) = byL g.length (dmP g f pre) := byL_congr fun a b _ _ => by simp [dmQ]
theorem dmQ_snoc {g : Gr} {f : Int} {pre : List Nat} {i j : Nat} {pre' : List Nat} (hi : i < g.length) (hj : j < g.length) :
    (byL g.length (dmQ g f pre i pre')).set j ((setN g.length fun a => dmQ g f pre i pre' a j) ||| 2 ^ i) = byL g.length (dmQ g f pre i (pre' ++ [j])) := by
  rw [byL_set hi hj]
  refine byL_congr fun a b _ _ => ?_
  rw [Bool.eq_iff_iff]
  simp only [dmQ, Bool.or_eq_true, Bool.and_eq_true, decide_eq_true_eq, List.mem_append, List.mem_singleton]
  constructor
  · rintro ((h | h) | h)
    · exact .inl h
    · exact .inr ⟨h.1, .inl h.2⟩
    · exact .inr ⟨h.1, .inr h.2⟩
  · rintro (h | ⟨h, k | k⟩)
    · exact .inl (.inl h)
    · exact .inl (.inr ⟨h, k⟩)
    · exact .inr ⟨h, k⟩
theorem dmQ_end {g : Gr} {f : Int} (hl : g.length ≤ 64) {pre : List Nat} {i : Nat} (hi : i ∈ bitsL (rN g f 0)) :
    byL g.length (dmQ g f pre i (bitsL (lessN (rN g f 0) (rN g f (2 ^ i))))) = byL g.length (dmP g f (pre ++ [i])) := byL_congr fun a b _ _ => by
  rw [Bool.eq_iff_iff]
  simp only [dmQ, dmP, Bool.or_eq_true, Bool.and_eq_true, decide_eq_true_eq, List.mem_append, List.mem_singleton]
  constructor
  · rintro (h | ⟨h, k⟩)
    · exact ⟨.inl h.1, h.2⟩
    · subst h; exact ⟨.inr rfl, (lost_is hl hi).1 k⟩
  · rintro ⟨h | h, k⟩
    · exact .inl ⟨h, k⟩
    · subst h; exact .inr ⟨rfl, (lost_is hl hi).2 k⟩
theorem dmP_nil (g : Gr) (f : Int) : byL g.length (dmP g f []) = List.replicate g.length 0 := byL_none fun a b => by simp [dmP]
theorem dmP_end {g : Gr} {f : Int} (hl : g.length ≤ 64) : byL g.length (dmP g f (bitsL (rN g f 0))) = domL g f := byL_congr fun a b _ _ => by
  rw [Bool.eq_iff_iff]
  simp only [dmP, Bool.and_eq_true, decide_eq_true_eq]
  exact ⟨fun h => h.2, fun h => ⟨(mem_rN hl).2 (dom_re h), h⟩⟩

/-! In memory. -/
structure DmI (w W : World) (gb b2 b3 b5 b6 bb : Nat) (g : Gr) (f : Int) (x : Nat) (X : List Nat) : Prop where
  kept : Kept w W
  c2 : W.heap[b2]? = some (.cells #[.slice (some ⟨gb, 0, none⟩) g.length g.length] 36 (0, 0))
  c3 : W.heap[b3]? = some (.cells #[.int .i64 f] 3 (0, 0))
  c5 : W.heap[b5]? = some (.cells #[.slice (some ⟨bb, 0, none⟩) g.length g.length] 35 (0, 0))
  c6 : Box W b6 x
  low : w.heap.size ≤ b2 ∧ w.heap.size ≤ bb ∧ b2 < b3 ∧ b3 < bb ∧ bb < b5 ∧ b5 < b6
  gs : Gs W bb X
theorem DmI.keep {w W W' : World} {gb b2 b3 b5 b6 bb x : Nat} {g : Gr} {f : Int} {X : List Nat} (h : DmI w W gb b2 b3 b5 b6 bb g f x X) (hk : Kept W W') : DmI w W' gb b2 b3 b5 b6 bb g f x X :=
  ⟨h.kept.trans hk, kept_heap hk h.c2, kept_heap hk h.c3, kept_heap hk h.c5, h.c6.kept hk, h.low, h.gs.kept hk⟩
theorem stb_dm (w : World) {B : Nat} (h : w.heap.size ≤ B) (gb b2 b3 b5 b6 bb : Nat) (g : Gr) (f : Int) (x : Nat) (X : List Nat) : Stb B (fun W => DmI w W gb b2 b3 b5 b6 bb g f x X) := fun S W W' hi hc hs =>
  ⟨stb_kept w h S W W' hi.kept hc hs, stb_cells B _ _ _ _ S W W' hi.c2 hc hs, stb_cells B _ _ _ _ S W W' hi.c3 hc hs, stb_cells B _ _ _ _ S W W' hi.c5 hc hs, stb_box B _ _ S W W' hi.c6 hc hs, hi.low, stb_gs B _ _ S W W' hi.gs hc hs⟩
theorem dm_new (w : World) (v : Value) (f : Int) (n : Nat) (W : World) (hW : (((w.alloc (.cells #[v] 36)).alloc (.cells #[.int .i64 f] 3)).alloc (.cells (madeCells (setC 0) (n * 32)) 42)).alloc (.cells #[.slice (some ⟨w.heap.size + 1 + 1, 0, none⟩) n n] 35) = W) :
    Kept w W ∧ W.heap[w.heap.size]? = some (.cells #[v] 36 (0, 0)) ∧ W.heap[w.heap.size + 1]? = some (.cells #[.int .i64 f] 3 (0, 0)) ∧ W.heap[w.heap.size + 1 + 1 + 1]? = some (.cells #[.slice (some ⟨w.heap.size + 1 + 1, 0, none⟩) n n] 35 (0, 0)) ∧ Gs W (w.heap.size + 1 + 1) (List.replicate n 0) := by
  have k1 := (Kept.refl w).alloc (.cells #[v] 36)
  have h2 := heap_alloc_new w (.cells #[v] 36)
  have e1 : (w.alloc (.cells #[v] 36)).heap.size = w.heap.size + 1 := by simp
  generalize w.alloc (.cells #[v] 36) = w1 at *
  have k2 := (Kept.refl w1).alloc (.cells #[.int .i64 f] 3)
  have h3 := heap_alloc_new w1 (.cells #[.int .i64 f] 3)
  have e2 : (w1.alloc (.cells #[.int .i64 f] 3)).heap.size = w.heap.size + 1 + 1 := by simp [e1]
  rw [e1] at h3
  generalize w1.alloc (.cells #[.int .i64 f] 3) = w2 at *
  have k3 := (Kept.refl w2).alloc (.cells (madeCells (setC 0) (n * 32)) 42)
  have h4 := gs_made w2 n
  have e3 : (w2.alloc (.cells (madeCells (setC 0) (n * 32)) 42)).heap.size = w.heap.size + 1 + 1 + 1 := by simp [e2]
  rw [e2] at h4
  generalize w2.alloc (.cells (madeCells (setC 0) (n * 32)) 42) = w3 at *
  have k4 := (Kept.refl w3).alloc (.cells #[.slice (some ⟨w.heap.size + 1 + 1, 0, none⟩) n n] 35)
  have h5 := heap_alloc_new w3 (.cells #[.slice (some ⟨w.heap.size + 1 + 1, 0, none⟩) n n] 35)
  rw [e3] at h5
  rw [hW] at k4 h5
  exact ⟨((k1.trans k2).trans k3).trans k4, kept_heap ((k2.trans k3).trans k4) h2, kept_heap (k3.trans k4) h3, h5, h4.kept k4⟩
set_option maxRecDepth 100000 in
set_option maxHeartbeats 4000000 in
theorem gdoms_any (w : World) (gb : Nat) (g : Gr) (f : Int) (hg : Gs w gb (xeL g)) (hl : g.length ≤ 30) (hT : Tab w) :
    Calls Tryd.prog 28 #[.slice (some ⟨gb, 0, none⟩) g.length g.length, .int .i64 f] w fun e w' => ∃ bb, e = .returned (.slice (some ⟨bb, 0, none⟩) g.length g.length) ∧ Hid (Kept w w' ∧ w.heap.size ≤ bb ∧ Gs w' bb (domL g f)) := by
  have HG := Lib.hid hg
  have HT := Lib.hid hT
  have hm := made_sets 35 Tryd.underlying35 g.length (by omega)
  clear hg hT
  refine (callsIn_wide (n := 0)).1 (callsIn_of_wp_marks Tryd.func28 rfl trivial ?_ rfl)
  simp only [Tryd.ntmps28, List.size_toArray, List.length_cons, List.length_nil, Nat.reduceAdd, Nat.reduceSub, Array.replicate_succ, Array.replicate_zero, List.push_toArray, List.append_toArray, List.nil_append, List.cons_append]
  refine wpIn_wide.2 ?_
  go_upto_region 2 with fail
  have hst := Lib.hid (dm_new w (.slice (some ⟨gb, 0, none⟩) g.length g.length) f g.length _ rfl)
  clear hm
  generalize (((w.alloc (.cells #[.slice (some ⟨gb, 0, none⟩) g.length g.length] 36)).alloc (.cells #[.int .i64 f] 3)).alloc (.cells (madeCells (setC 0) (g.length * 32)) 42)).alloc (.cells #[.slice (some ⟨w.heap.size + 1 + 1, 0, none⟩) g.length g.length] 35) = w1 at *
  generalize hb2 : w.heap.size = b2 at *
  generalize hb3 : b2 + 1 = b3 at *
  generalize hbb : b3 + 1 = bb at *
  generalize hb5 : bb + 1 = b5 at *
  have HC := Lib.hid (greach_any w1 gb g f 0 (HG.out.kept hst.out.1) hl (Nat.two_pow_pos _) (HT.out.kept hst.out.1))
  obtain ⟨x, hx⟩ : ∃ x, rN g f 0 = x := ⟨_, rfl⟩
  rw [hx] at HC
  have hx3 := rN_lt g f 0
  rw [hx] at hx3
  have hx2 : x < 4294967296 := Nat.lt_of_lt_of_le hx3 (Nat.pow_le_pow_right (n := 2) (j := 32) (by decide) (by omega))
  have HX := Lib.hid hx
  have c2 := bx_cell hst.out.2.1 0 _ rfl
  have c3 := bx_cell hst.out.2.2.1 0 _ rfl
  clear hx
  go_upto_region 3 with (go_at_call 24; rw [← setC_zero]; refine (HC.out).mono ?_; rintro e w2 ⟨rfl, H2⟩; have hsc := store_new w2 x; rw [setC_zero] at hsc)
  have hls : b2 < b3 ∧ b3 < bb ∧ bb < b5 ∧ b5 < w2.heap.size := by
    have h5 := (Array.getElem?_eq_some_iff.1 hst.out.2.2.2.1).1
    have := H2.out.size
    omega
  have hst2 : Hid (DmI w (w2.alloc (.cells (setC x) 42)) gb b2 b3 b5 w2.heap.size bb g f x (byL g.length (dmP g f []))) := Lib.hid (by
    obtain ⟨q1, q2, q3, q4, q5⟩ := hst.out
    have k := H2.out
    have k2 := (Kept.refl w2).alloc (.cells (setC x) 42)
    rw [dmP_nil]
    exact ⟨(q1.trans k).trans k2, kept_heap k2 (kept_heap k q2), kept_heap k2 (kept_heap k q3), kept_heap k2 (kept_heap k q4), Box.new _ _, ⟨by omega, by omega, by omega, by omega, by omega, by omega⟩, (q5.kept k).kept k2⟩)
  clear hst H2 HC hsc c2 c3 hb2 hb3 hbb hb5 hls
  generalize w2.alloc (.cells (setC x) 42) = w3 at *
  generalize w2.heap.size = b6 at *
  have HB6 := hst2.out.c6
  go_wp2_with (refine wpList_load_row rfl _ _ rfl b6 rfl 42 (setC x) (0, 0) _ HB6 Tryd.underlying42 rfl (info42 x) ?_)
  clear HB6
  have hlw := hst2.out.kept.size
  refine wpIn_wide.1 (range_out (x := x) (I := fun pre W => DmI w W gb b2 b3 b5 b6 bb g f x (byL g.length (dmP g f pre))) (Ix := fun _ _ _ => False) hx2 rfl
    (Owes.box (af := ?af) 3 rfl (fun pre => stb_dm w hlw _ _ _ _ _ _ _ _ _ _) (fun _ _ => Stb.pure _ _) (fun _ _ h => HT.out.kept h.kept) ?assign ?body) hst2.out ?done ?stop)
  case assign =>
    intro l i W b K hb hK
    gi_wp2
    exact hK
  case body =>
    rintro l pre i W Bx hB ⟨r, hr⟩ hi hcx hp
    have him : i ∈ bitsL x := by obtain ⟨s, hs⟩ := hp; rw [← hs]; simp
    have hin : i < g.length := bitsL_lt hx3 him
    have HI := Lib.hid hi
    have cx := bx_cell hcx 0 _ rfl
    have HA := Lib.hid (fun W b h => box_add W b 0 i (by decide) (by omega) h)
    have HBn := Box.new W 0
    clear hi hp
    refine wpIn_block ?_
    refine wpIn_seq_k fun K hK => ?_
    have HK := Lib.hid hK
    clear hK
    gi_wp2
    rw [← setC_zero]
    refine HK.out _ _ ?_
    clear HK
    have HB8 := Lib.hid HBn
    have HI2 := Lib.hid (HI.out.keep ((Kept.refl W).alloc (.cells (setC 0) 42)))
    have cx2 : (W.alloc (.cells (setC 0) 42)).cell? ⟨Bx, 0, none⟩ = some (.int .i64 (i : Int)) := (World.cell?_of_block (((Kept.refl W).alloc _).block _ (World.block_lt_of_cell? W _ cx))).trans cx
    have HKW := Lib.hid ((Kept.refl W).alloc (.cells (setC 0) 42))
    clear cx HBn
    generalize W.alloc (.cells (setC 0) 42) = W1 at *
    have hlt8 := HI.out.gs.lt
    generalize hb8 : W.heap.size = b8 at *
    refine wpIn_seq_k fun K hK => ?_
    have HK := Lib.hid hK
    clear hK
    gi_wp2_with (refine ⟨trivial, rfl, ?_⟩; gi_at_call 35; refine (CallsIn.inRound l (callsIn_wide.2 (HA.out _ _ HB8.out))).mono ?_; rintro e W2 ⟨rfl, H2⟩)
    refine HK.out _ _ ?_
    clear HK
    have HI3 : Hid (DmI w W2 gb b2 b3 b5 b6 bb g f x (byL g.length (dmP g f pre))) := Lib.hid (by
      have h := H2.out.1
      have k := HI2.out
      have hlt := HI.out
      have n2 := (Array.getElem?_eq_some_iff.1 hlt.c2).1
      have n3 := (Array.getElem?_eq_some_iff.1 hlt.c3).1
      have n5 := (Array.getElem?_eq_some_iff.1 hlt.c5).1
      have n6 := hlt.c6.lt
      exact ⟨Kept.trans_chg k.kept h (fun i e => by have := hlt.kept.size; omega), h.heap k.c2 (by omega), h.heap k.c3 (by omega), h.heap k.c5 (by omega), k.c6.chg h (by omega), k.low, k.gs.chg h (by omega)⟩)
    have hnx : Bx < b8 := by have := (Array.getElem?_eq_some_iff.1 hcx).1; omega
    have hcx3 : W2.heap[Bx]? = some (.cells #[.int .i64 (i : Int)] 3 (0, 0)) := H2.out.1.heap (kept_heap HKW.out hcx) (by omega)
    have HB8b := Lib.hid H2.out.2
    have hr3 : W2.heap[l]? = some (.loop r) := H2.out.1.heap (kept_heap HKW.out hr) (by have := (Array.getElem?_eq_some_iff.1 hr).1; omega)
    have HKf : Hid (KeepsFrom w3.heap.size W W2) := Lib.hid ((keeps_kept HKW.out).trans (keeps_chg H2.out.1 fun k e _ => by subst e; exact HB8.out.cells))
    clear H2 HB8 HI2 cx2 HKW HA
    rw [Nat.zero_or] at HB8b
    obtain ⟨s, hs⟩ : ∃ s, 2 ^ i = s := ⟨_, rfl⟩
    have hsl : s < 2 ^ g.length := by rw [← hs]; exact pow_lt hin
    have e32 := Nat.pow_le_pow_right (n := 2) (j := 32) (by decide) (show g.length ≤ 32 by omega)
    rw [hs] at HB8b
    have hrl := rN_lt g f s
    obtain ⟨z, hz⟩ : ∃ z, rN g f s = z := ⟨_, rfl⟩
    rw [hz] at hrl
    obtain ⟨y, hy⟩ : ∃ y, lessN x z = y := ⟨_, rfl⟩
    have HC2 := Lib.hid (fun W (hk : Kept W2 W) => greach_any W gb g f s (HG.out.kept (HI3.out.kept.trans hk)) hl hsl (HT.out.kept (HI3.out.kept.trans hk)))
    rw [hz] at HC2
    have HL2 := Lib.hid (fun W => less_any W x z hx2 (by omega))
    rw [hy] at HL2
    have HY : Hid (bitsL y = bitsL (lessN (rN g f 0) (rN g f (2 ^ i)))) := Lib.hid (by rw [← hy, ← hz, ← hs, HX.out])
    have hy2 : y < 2 ^ g.length := by rw [← hy]; exact lessN_lt hx3
    clear hz hy hs
    refine wpIn_seq_k fun K hK => ?_
    have HK := Lib.hid hK
    clear hK
    refine region_inv (base := 22) (vals := fun i => match i with | 0 => .agg (setC x) | 1 => .slice (some ⟨gb, 0, none⟩) g.length g.length | 2 => .int .i64 f | 3 => .agg (setC s) | 4 => .agg (setC z) | 5 => .agg (setC y) | _ => .func (.func 25) #[.agg (setC y)] #[]) (Inv := fun _ W' => Kept W2 W') (by kernel_rfl) (by simp) ?hd ?hstep ?hend (acyc_of (by kernel_rfl)) ((Kept.refl W2).drewN 1)
    case hd =>
      intro i o h
      rcases i with _ | _ | _ | _ | _ | _ | _ | i
      all_goals first | (obtain rfl := Option.some.inj h; exact ⟨rfl, rfl⟩) | (simp at h)
    case hstep =>
      intro i o L a w4 K ho _ _ hdep hF hI hK
      rcases i with _ | _ | _ | _ | _ | _ | _ | i
      · obtain rfl := Option.some.inj ho
        exact opIn_load rfl rfl ((hF.old (s := 6) (by decide)).trans rfl) (HI3.out.c6.kept hI).load (hK _ hI)
      · obtain rfl := Option.some.inj ho
        exact opIn_load rfl rfl ((hF.old (s := 2) (by decide)).trans rfl) (loadVar_one Tryd.isAgg36 (bx_cell (kept_heap hI HI3.out.c2) 0 _ rfl)) (hK _ hI)
      · obtain rfl := Option.some.inj ho
        exact opIn_load rfl rfl ((hF.old (s := 3) (by decide)).trans rfl) (loadVar_one Tryd.isAgg3 (bx_cell (kept_heap hI HI3.out.c3) 0 _ rfl)) (hK _ hI)
      · obtain rfl := Option.some.inj ho
        exact opIn_load rfl rfl ((hF.old (s := 8) (by decide)).trans rfl) (HB8b.out.kept hI).load (hK _ hI)
      · obtain rfl := Option.some.inj ho
        have v1 := hF.val (i := 1) (by decide) (dep_of hdep (by kernel_rfl))
        have v2 := hF.val (i := 2) (by decide) (dep_of hdep (by kernel_rfl))
        have v3 := hF.val (i := 3) (by decide) (dep_of hdep (by kernel_rfl))
        refine opIn_call (args := #[.slice (some ⟨gb, 0, none⟩) g.length g.length, .int .i64 f, .agg (setC s)]) rfl rfl ?_ (enters_of Tryd.func24 (by kernel_rfl) rfl _) (fun _ => trivial) (fun h => by cases h) (CallsIn.inRound l (callsIn_wide.2 (HC2.out w4 hI))) ?_
        · simp [show a.eval (.tmp 23) = _ from v1, show a.eval (.tmp 24) = _ from v2, show a.eval (.tmp 25) = _ from v3]
        · rintro e w5 ⟨rfl, h⟩
          exact ⟨_, rfl, hK _ (hI.trans h.out)⟩
      · obtain rfl := Option.some.inj ho
        have v0 := hF.val (i := 0) (by decide) (dep_of hdep (by kernel_rfl))
        have v4 := hF.val (i := 4) (by decide) (dep_of hdep (by kernel_rfl))
        refine opIn_call (args := #[.agg (setC x), .agg (setC z)]) rfl rfl ?_ (enters_of Tryd.func38 (by kernel_rfl) rfl _) (fun _ => trivial) (fun h => by cases h) (CallsIn.inRound l (callsIn_wide.2 (HL2.out w4))) ?_
        · simp [show a.eval (.tmp 22) = _ from v0, show a.eval (.tmp 26) = _ from v4]
        · rintro e w5 ⟨rfl, h⟩
          exact ⟨_, rfl, hK _ (hI.trans h)⟩
      · obtain rfl := Option.some.inj ho
        have v5 := hF.val (i := 5) (by decide) (dep_of hdep (by kernel_rfl))
        refine opIn_value rfl (by simp [Oper.about]) (by intro c h; cases h) ?_ (hK _ hI)
        unfold execOp
        simp [Instr.makeFunc, show a.eval (.tmp 27) = _ from v5, Sem.run_bind, Sem.run_pure, Result.andThen_ok]
      · simp at ho
    case hend =>
      intro _ W4 _ hI4
      refine HK.out _ _ ?_
      clear HK HC2 HL2
      have HI5 := Lib.hid (HI3.out.keep hI4)
      have hr5 : W4.heap[l]? = some (.loop r) := kept_heap hI4 hr3
      have hcx5 : W4.heap[Bx]? = some (.cells #[.int .i64 (i : Int)] 3 (0, 0)) := kept_heap hI4 hcx3
      have HKf5 : Hid (KeepsFrom w3.heap.size W W4) := Lib.hid (HKf.out.trans (keeps_kept hI4))
      have hst5 : Hid (DmI w W4 gb b2 b3 b5 b6 bb g f x (byL g.length (dmQ g f pre i [])) ∧ W4.heap[Bx]? = some (.cells #[.int .i64 (i : Int)] 3 (0, 0)) ∧ KeepsFrom w3.heap.size W W4) := Lib.hid ⟨by rw [dmQ_nil]; exact HI5.out, hcx5, HKf5.out⟩
      have hlw5 := HI5.out.kept.size
      have hlW : W.heap.size ≤ W4.heap.size := HKf5.out.size
      clear HI5 hcx5 HKf5 HKf HI3 HB8b hcx3 hr3 hI4
      simp only [putAll, List.size_toArray, List.length_cons, List.length_nil, List.setIfInBounds_toArray, List.set_cons_zero, List.set_cons_succ, Nat.reduceAdd]
      refine wpIn_block ?_
      refine range_in (x := y) (I := fun pre' W' => DmI w W' gb b2 b3 b5 b6 bb g f x (byL g.length (dmQ g f pre i pre')) ∧ W'.heap[Bx]? = some (.cells #[.int .i64 (i : Int)] 3 (0, 0)) ∧ KeepsFrom w3.heap.size W W') (Ix := fun _ _ _ => False) hr5 (by omega) rfl
        (Owes.fix (af := ?af2) rfl (fun pre' => (stb_dm w hlw5 _ _ _ _ _ _ _ _ _ _).and ((stb_cells _ _ _ _ _).and (stb_keeps W hlW))) (fun _ _ => Stb.pure _ _) (fun _ _ h => HT.out.kept h.1.kept) ?assign2 ?body2) hst5.out ?done2 ?stop2
      case assign2 =>
        intro l2 j W' K hK
        gi_wp2
        exact hK
      case body2 =>
        rintro l2 pre' j W' hB2 - ⟨hi', hcx', hkf'⟩ hp'
        have hjm : j ∈ bitsL y := by obtain ⟨s, hs⟩ := hp'; rw [← hs]; simp
        have hjn : j < g.length := bitsL_lt hy2 hjm
        have hxl : j < (byL g.length (dmQ g f pre i pre')).length := by rw [byL_len]; exact hjn
        have HA := Lib.hid (fun (W4 : World) (h : Same W' W4) => add_any W4 bb (j * 32) (byL g.length (dmQ g f pre i pre'))[j] i (by rw [byL_at hxl]; have := setN_lt' (m := 32) (show g.length ≤ 32 by omega) (fun a => dmQ g f pre i pre' a j); omega) (by omega) ((hi'.gs.same h).at hxl))
        have c5 := bx_cell hi'.c5 0 _ rfl
        have cx := bx_cell hcx' 0 _ rfl
        have hne1 : bb ≠ b2 ∧ bb ≠ b3 ∧ bb ≠ b5 ∧ bb ≠ b6 := by have := hi'.low; omega
        have hne2 : Bx ≠ bb := by
          obtain ⟨cs, h, _⟩ := hi'.gs
          exact ne_of_ty hcx' h (by decide)
        have HN : ∀ W5 W6 : World, Same W' W5 → Same (W5.setCell ⟨bb, j * 32, none⟩ (.int .u64 (((byL g.length (dmQ g f pre i pre'))[j] ||| 2 ^ i : Nat) : Int))) W6 →
            DmI w W6 gb b2 b3 b5 b6 bb g f x (byL g.length (dmQ g f pre i (pre' ++ [j]))) ∧ W6.heap[Bx]? = some (.cells #[.int .i64 (i : Int)] 3 (0, 0)) ∧ KeepsFrom w3.heap.size W W6 ∧ KeepsFrom W4.heap.size W' W6 := fun W5 W6 h5 h6 => by
          have hc : Chg (fun k => k = bb) W' W6 := (h5.chg.then (chg_set W5 bb (j * 32) _)).then h6.chg
          have hg := ((hi'.gs.same h5).set hxl ((byL g.length (dmQ g f pre i pre'))[j] ||| 2 ^ i)).same h6
          rw [byL_at hxl, dmQ_snoc hin hjn] at hg
          have hkb : ∀ k, k = bb → Blkc W' k := fun k e => by subst e; exact hi'.gs.cells
          exact ⟨⟨Kept.trans_chg hi'.kept hc (fun k e => by subst e; exact hi'.low.2.1), hc.heap hi'.c2 (by omega), hc.heap hi'.c3 (by omega), hc.heap hi'.c5 (by omega), hi'.c6.chg hc (by omega), hi'.low, hg⟩, hc.heap hcx' hne2, hkf'.trans (keeps_chg hc fun k e _ => hkb k e), keeps_chg hc fun k e _ => hkb k e⟩
        refine wpIn_block ?_
        refine region_inv (base := 30) (vals := fun q => match q with | 0 => .slice (some ⟨bb, 0, none⟩) g.length g.length | 1 => .int .i64 (j : Int) | 2 => .pointer (some ⟨bb, j * 32, none⟩) | 3 => .int .i64 (i : Int) | _ => .tuple #[])
          (Inv := fun L W6 => (L.getD 4 false = false ∧ Same W' W6 ∧ (L.getD 2 false = true → L.getD 0 false = true ∧ L.getD 1 false = true)) ∨ ((∀ q, q < 5 → L.getD q false = true) ∧ (DmI w W6 gb b2 b3 b5 b6 bb g f x (byL g.length (dmQ g f pre i (pre' ++ [j]))) ∧ W6.heap[Bx]? = some (.cells #[.int .i64 (i : Int)] 3 (0, 0)) ∧ KeepsFrom w3.heap.size W W6 ∧ KeepsFrom W4.heap.size W' W6)))
          (by kernel_rfl) (by simp) ?hd2 ?hstep2 ?hend2 (acyc_of (by kernel_rfl)) (.inl ⟨by simp, Same.drewN W' 1, by simp⟩)
        case hd2 =>
          intro q o h
          rcases q with _ | _ | _ | _ | _ | q
          all_goals first | (obtain rfl := Option.some.inj h; exact ⟨rfl, rfl⟩) | (simp at h)
        case hstep2 =>
          intro q o L a w6 K ho hf hL hdep hF hI hK
          have hL' : L.size = 5 := by rw [hL]; simp
          have hq : q < 5 := by
            have := (Array.getElem?_eq_some_iff.1 ho).1
            simpa using this
          have hI' : L.getD 4 false = false ∧ Same W' w6 ∧ (L.getD 2 false = true → L.getD 0 false = true ∧ L.getD 1 false = true) := by
            rcases hI with h | h
            · exact h
            · rw [h.1 q hq] at hf; cases hf
          obtain ⟨g4, gs, g2⟩ := hI'
          have hset : ∀ p, p < 5 → (L.setIfInBounds q true).getD p false = if q = p then true else L.getD p false := fun p hp => by
            simp only [Array.getD_eq_getD_getElem?, Array.getElem?_setIfInBounds]
            by_cases e : q = p
            · subst e; simp [hL', hp]
            · simp [e]
          rcases q with _ | _ | _ | _ | _ | q
          · obtain rfl := Option.some.inj ho
            refine opIn_load rfl rfl ((hF.old (s := 5) (by decide)).trans rfl) (loadVar_one Tryd.isAgg35 ((gs.cell _).trans c5)) (hK _ (.inl ⟨by rw [hset 4 (by decide)]; exact g4, gs, fun h => ?_⟩))
            rw [hset 2 (by decide)] at h
            rw [hset 0 (by decide), hset 1 (by decide)]
            exact ⟨by simp, (g2 h).2⟩
          · obtain rfl := Option.some.inj ho
            refine opIn_move rfl rfl ?_
            rw [(hF.old (s := 9) (by decide)).trans rfl]
            refine hK _ (.inl ⟨by rw [hset 4 (by decide)]; exact g4, gs, fun h => ?_⟩)
            rw [hset 2 (by decide)] at h
            rw [hset 0 (by decide), hset 1 (by decide)]
            exact ⟨(g2 h).1, by simp⟩
          · obtain rfl := Option.some.inj ho
            have d0 := dep_of hdep (i := 0) (by kernel_rfl)
            have d1 := dep_of hdep (i := 1) (by kernel_rfl)
            have v0 := hF.val (i := 0) (by decide) d0
            have v1 := hF.val (i := 1) (by decide) d1
            refine opIn_index rfl rfl v0 v1 Tryd.underlying35 (Tryd.sizeOf42 w6) hjn (hK _ (.inl ⟨by rw [hset 4 (by decide)]; exact g4, gs, fun h => ?_⟩))
            rw [hset 0 (by decide), hset 1 (by decide)]
            exact ⟨d0, d1⟩
          · obtain rfl := Option.some.inj ho
            refine opIn_load rfl rfl ((hF.old (s := 7) (by decide)).trans rfl) (loadVar_one Tryd.isAgg3 ((gs.cell _).trans cx)) (hK _ (.inl ⟨by rw [hset 4 (by decide)]; exact g4, gs, fun h => ?_⟩))
            rw [hset 2 (by decide)] at h
            rw [hset 0 (by decide), hset 1 (by decide)]
            exact g2 h
          · obtain rfl := Option.some.inj ho
            have d2 := dep_of hdep (i := 2) (by kernel_rfl)
            have d3 := dep_of hdep (i := 3) (by kernel_rfl)
            have v2 := hF.val (i := 2) (by decide) d2
            have v3 := hF.val (i := 3) (by decide) d3
            refine opIn_call (args := #[.pointer (some ⟨bb, j * 32, none⟩), .int .i64 (i : Int)]) rfl rfl ?_ (enters_of Tryd.func35 (by kernel_rfl) rfl _) (fun _ => trivial) (fun h => by cases h) (CallsIn.inRound l2 (callsIn_wide.2 (HA.out w6 gs))) ?_
            · simp [show a.eval (.tmp 32) = _ from v2, show a.eval (.tmp 33) = _ from v3]
            · rintro e w7 ⟨rfl, h⟩
              refine ⟨_, rfl, hK _ (.inr ⟨fun p hp => ?_, HN w6 w7 gs h⟩)⟩
              rw [hset p hp]
              split
              · rfl
              · have : p = 0 ∨ p = 1 ∨ p = 2 ∨ p = 3 := by omega
                rcases this with rfl | rfl | rfl | rfl
                · exact (g2 d2).1
                · exact (g2 d2).2
                · exact d2
                · exact d3
          · simp at ho
        case hend2 =>
          intro L W6 hall hI
          have h4 := hall 4 (by simp)
          rcases hI with ⟨h, _⟩ | ⟨_, h⟩
          · rw [h] at h4; cases h4
          · exact ⟨h.2.2.2, trivial, h.1, h.2.1, h.2.2.1⟩
      case done2 =>
        rintro W' ⟨hi', hcx', hkf'⟩
        refine ⟨hkf', trivial, ?_⟩
        rw [HY.out, dmQ_end (by omega) (by rw [HX.out]; exact him)] at hi'
        exact hi'
      case stop2 =>
        intro c pre' W' _ h
        exact h.elim
  case done =>
    intro D W hD hi hk
    have c5 := bx_cell hi.c5 0 _ rfl
    have HI := Lib.hid hi
    clear hi
    dsimp only
    go_wp2
    have hI := HI.out
    rw [← HX.out, dmP_end (by omega)] at hI
    refine leaves_one hk (fun W' => results_tmp rfl _ _ _) ⟨_, rfl, Lib.hid ⟨Kept.trans_chg hI.kept (chg_putObj W D _) (fun k e => by subst e; omega), hI.low.2.1, ?_⟩⟩
    exact (stb_gs D _ _).put hI.gs (Nat.le_refl _) hk rfl _
  case stop =>
    intro D c pre W _ _ h
    exact h.elim
end Go.Proofs.YtpkebokfbigggaaDoor.Shp
