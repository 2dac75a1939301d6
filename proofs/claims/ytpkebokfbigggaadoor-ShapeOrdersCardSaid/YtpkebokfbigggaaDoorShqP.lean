/-
  Package shape: Dominators, Reducible, Order.
-/
import Derived.Test.YtpkebokfbigggaaDoorShqO
namespace Go.Proofs.YtpkebokfbigggaaDoor.Shp
open Go.RowKit Go.Shelf
open Classical
attribute [local go_sem] Oper.semAt_some

set_option maxRecDepth 100000 in
set_option maxHeartbeats 4000000 in
theorem sdominators_any (w : World) (v : Value) (g : Gr) (f : Int) (hg : GraphAt w v g) (hl : g.length ≤ 30) (hT : Tab w) :
    Calls Tryd.prog 13 #[v, .int .i64 f] w fun e w' => ∃ u, e = .returned u ∧ Hid (Kept w w' ∧ w'.ownsRow w.heap.size 3 1 u g.length ((idomL g f).map vi)) := by
  obtain ⟨ga, gc, rfl⟩ := hg.form
  have HR := Lib.hid (read_any w _ g hg hl)
  have HT := Lib.hid hT
  clear hg hT
  go_enter Tryd.func13, Tryd.ntmps13
  go_wp2_with (first | (go_at_call 23; refine (HR.out).mono ?_; rintro e w1 ⟨gb, rfl, H1⟩) | (go_at_call 28; refine (gdoms_any w1 gb g f H1.out.gs hl (HT.out.kept H1.out.kept)).mono ?_; rintro e w2 ⟨bb, rfl, H2⟩) | (go_at_call 27; refine (last_any w2 bb g f H2.out.2.2 hl ((HT.out.kept H1.out.kept).kept H2.out.1)).mono ?_; rintro e w3 ⟨u, rfl, H3⟩))
  go_ret
  exact ⟨_, rfl, Lib.hid ⟨(H1.out.kept.trans H2.out.1).trans H3.out.1, own_low H3.out.2 (H1.out.kept.trans H2.out.1).size⟩⟩
set_option maxRecDepth 100000 in
set_option maxHeartbeats 4000000 in
theorem sreducible_any (w : World) (v : Value) (g : Gr) (f : Int) (hg : GraphAt w v g) (hl : g.length ≤ 30) (hT : Tab w) :
    Calls Tryd.prog 19 #[v, .int .i64 f] w fun e w' => e = .returned (.bool (redB g f)) ∧ Hid (Kept w w') := by
  obtain ⟨ga, gc, rfl⟩ := hg.form
  have HR := Lib.hid (read_any w _ g hg hl)
  have HT := Lib.hid hT
  clear hg hT
  go_enter Tryd.func19, Tryd.ntmps19
  go_wp2_with (first | (go_at_call 23; refine (HR.out).mono ?_; rintro e w1 ⟨gb, rfl, H1⟩) | (go_at_call 33; refine (gorder_any w1 gb g f H1.out.gs hl (HT.out.kept H1.out.kept)).mono ?_; rintro e w2 ⟨u, rfl, H2⟩))
  go_ret
  exact ⟨rfl, Lib.hid (H1.out.kept.trans H2.out.1)⟩
set_option maxRecDepth 100000 in
set_option maxHeartbeats 4000000 in
theorem sorder_any (w : World) (v : Value) (g : Gr) (f : Int) (hg : GraphAt w v g) (hl : g.length ≤ 30) (hT : Tab w) :
    Calls Tryd.prog 21 #[v, .int .i64 f] w fun e w' => ∃ u, e = .returned u ∧ Hid (Kept w w' ∧ w'.ownsRow w.heap.size 3 1 u (orderL g f).length ((orderL g f).map vi)) := by
  obtain ⟨ga, gc, rfl⟩ := hg.form
  have HR := Lib.hid (read_any w _ g hg hl)
  have HT := Lib.hid hT
  clear hg hT
  obtain ⟨q, hq⟩ : ∃ q, redB g f = q := ⟨_, rfl⟩
  have HQ := Lib.hid hq
  clear hq
  go_enter Tryd.func21, Tryd.ntmps21
  go_wp2_with (first | (go_at_call 23; refine (HR.out).mono ?_; rintro e w1 ⟨gb, rfl, H1⟩) | (go_at_call 33; refine (gorder_any w1 gb g f H1.out.gs hl (HT.out.kept H1.out.kept)).mono ?_; rintro e w2 ⟨u, rfl, H2⟩; rw [HQ.out]; cases q))
  · go_ret
    refine ⟨_, rfl, Lib.hid ⟨H1.out.kept.trans H2.out.1, ?_⟩⟩
    unfold orderL
    rw [HQ.out]
    exact World.ownsRow_nil _ _ _ _
  · go_ret
    refine ⟨_, rfl, Lib.hid ⟨H1.out.kept.trans H2.out.1, ?_⟩⟩
    unfold orderL
    rw [HQ.out, if_pos rfl, List.length_map, List.map_map]
    exact own_low H2.out.2 H1.out.kept.size
structure HdI (w W : World) (b9 : Nat) (vo : Value) (pre : List Nat) : Prop where
  kept : Kept w W
  c9 : W.heap[b9]? = some (.cells #[vo] 23 (0, 0))
  own : W.ownsRow w.heap.size 3 1 vo pre.length (pre.map vn)
  low : w.heap.size ≤ b9
section
variable {w W W' : World} {b9 : Nat} {vo : Value} {pre : List Nat}
theorem HdI.grown (h : HdI w W b9 vo pre) {o : Obj} (hg : (W.alloc o).grownBy W' vo.ownBlock) : W'.heap[b9]? = some (.cells #[vo] 23 (0, 0)) ∧ Kept w W' ∧ KeepsFrom 0 W W' := by
  have k1 := (Kept.refl W).alloc o
  have hkk := keeps_kept (B := 0) k1
  have hk1 := h.kept.trans k1
  have hc1 := kept_heap k1 h.c9
  have ho1 := own_kept h.own k1
  generalize W.alloc o = W1 at *
  have hc := chg_grown hg
  have hr : ∀ k, vo.ownBlock = some k → ∃ c, W1.heap[k]? = some (.cells c 3 (0, 0)) := fun k e => (own_ty ho1 e).2.2
  refine ⟨hc.heap hc1 fun e => ?_, kept_grown hk1 hc fun k e => (own_ty ho1 e).1, hkk.trans (keeps_chg hc fun k e _ => by obtain ⟨c, e2⟩ := hr k e; exact ⟨_, _, _, e2⟩)⟩
  obtain ⟨c, e2⟩ := hr _ e
  rw [hc1] at e2
  injection e2 with e2
  injection e2 with _ e2 _
  exact absurd e2 (by decide)
theorem HdI.push (h : HdI w W b9 vo pre) {o : Obj} {q n c i : Nat} (hg : (W.alloc o).grownBy W' vo.ownBlock) (ho : W'.ownsRow w.heap.size 3 1 (.slice (some ⟨q, 0, none⟩) n c) (pre.length + 1) (pre.map vn ++ [.int .i64 (i : Int)])) :
    HdI w (W'.setCell ⟨b9, 0, none⟩ (.slice (some ⟨q, 0, none⟩) n c)) b9 (.slice (some ⟨q, 0, none⟩) n c) (pre ++ [i]) ∧ KeepsFrom 0 W (W'.setCell ⟨b9, 0, none⟩ (.slice (some ⟨q, 0, none⟩) n c)) := by
  obtain ⟨h1, h2, h3⟩ := h.grown hg
  have hs := chg_set W' b9 0 (.slice (some ⟨q, 0, none⟩) n c)
  refine ⟨⟨h2.setCell h.low _, by rw [heap_setCell_same _ _ _ _ _ _ h1]; rfl, ?_, h.low⟩, h3.trans (keeps_chg hs fun k e _ => by subst e; exact ⟨_, _, _, h1⟩)⟩
  rw [List.length_append, List.length_singleton, List.map_append]
  refine own_chg ho hs fun k e => ?_
  obtain ⟨_, _, c', hc'⟩ := own_ty ho e
  exact ne_of_ty hc' h1 (by decide)
theorem stb_hd {B : Nat} (h : w.heap.size ≤ B) : Stb B (fun W => HdI w W b9 vo pre) := fun S W W' hi hc hs =>
  ⟨stb_kept w h S W W' hi.kept hc hs, stb_cells B _ _ _ _ S W W' hi.c9 hc hs, stb_own B _ _ _ _ _ S W W' hi.own hc hs, hi.low⟩
end
set_option maxRecDepth 100000 in
set_option maxHeartbeats 4000000 in
theorem sheads_any (w : World) (v : Value) (g : Gr) (f : Int) (hg : GraphAt w v g) (hl : g.length ≤ 30) (hT : Tab w) :
    Calls Tryd.prog 17 #[v, .int .i64 f] w fun e w' => ∃ u, e = .returned u ∧ Hid (Kept w w' ∧ w'.ownsRow w.heap.size 3 1 u (headL g f).length ((headL g f).map vi)) := by
  obtain ⟨ga, gc, rfl⟩ := hg.form
  have HR := Lib.hid (read_any w _ g hg hl)
  have HT := Lib.hid hT
  clear hg hT
  obtain ⟨i0, hi, hz0, hz1, hz2⟩ := info_get int_inf
  have Hi := Lib.hid (And.intro hi (And.intro hz0 (And.intro hz1 hz2)))
  clear hi hz0 hz1 hz2
  refine (callsIn_wide (n := 0)).1 (callsIn_of_wp_marks Tryd.func17 rfl trivial ?_ rfl)
  simp only [Tryd.ntmps17, List.size_toArray, List.length_cons, List.length_nil, Nat.reduceAdd, Nat.reduceSub, Array.replicate_succ, Array.replicate_zero, List.push_toArray, List.append_toArray, List.nil_append, List.cons_append]
  refine wpIn_wide.2 ?_
  go_upto_region 5 with (first | (go_at_call 23; refine (HR.out).mono ?_; rintro e w1 ⟨gb, rfl, H1⟩) | (go_at_call 31; refine (gparted_any w1 gb g f H1.out.gs hl (HT.out.kept H1.out.kept)).mono ?_; rintro e w2 ⟨ob, rfl, H2⟩; have hsc := store_new w2 (hdN g f); rw [setC_zero] at hsc))
  clear hsc
  have HB8 := Box.new w2 (hdN g f)
  have hk3 := Lib.hid ((H1.out.kept.trans H2.out.1).alloc (.cells (setC (hdN g f)) 42))
  have hk3s : w2.heap.size < (w2.alloc (.cells (setC (hdN g f)) 42)).heap.size := by simp
  obtain ⟨z, hz⟩ : ∃ z, hdN g f = z := ⟨_, rfl⟩
  have hzb : z < 4294967296 := by rw [← hz]; exact setN_lt' (m := 32) (by omega) _
  have hbl : bitsL z = headN g f := by
    rw [← hz]
    unfold hdN headN
    exact setN_bitsL (n := g.length) (by omega) _
  have HBl := Lib.hid hbl
  have hlen : ∀ pre i, pre ++ [i] <+: bitsL z → pre.length + 1 ≤ 30 := fun pre i hp => by
    have h1 := hp.length_le
    have h2 : (headN g f).length ≤ g.length := by unfold headN; exact Nat.le_trans (List.length_filter_le _ _) (by simp)
    rw [hbl] at h1
    simp at h1
    omega
  have HLen := Lib.hid hlen
  rw [hz] at HB8 hk3 hk3s ⊢
  clear hz hbl hlen H1 H2 HR
  generalize w2.alloc (.cells (setC z) 42) = w3 at *
  generalize hb8 : w2.heap.size = b8 at *
  have HT3 : Hid (∀ W, Kept w W → Tab W) := Lib.hid fun W h => HT.out.kept h
  have hst : Hid (HdI w (w3.alloc (.cells #[.slice none 0 0] 23)) w3.heap.size (.slice none 0 0) []) := Lib.hid ⟨hk3.out.alloc _, heap_alloc_new _ _, World.ownsRow_nil _ _ _ _, hk3.out.size⟩
  have HB9 := HB8.kept ((Kept.refl w3).alloc (.cells #[.slice none 0 0] 23))
  go_upto_region 6 with fail
  generalize w3.alloc (.cells #[.slice none 0 0] 23) = w4 at *
  generalize hb9 : w3.heap.size = b9 at *
  go_wp2_with (refine wpList_load_row rfl _ _ rfl b8 rfl 42 (setC z) (0, 0) _ HB9 Tryd.underlying42 rfl (info42 z) ?_)
  clear HB8 HB9 hk3 hk3s
  have hlw := hst.out.kept.size
  refine (wpIn_wide (n := 0)).1 (range_out (x := z) (I := fun pre W => ∃ vo, HdI w W b9 vo pre) (Ix := fun _ _ _ => False) hzb rfl
    (Owes.fix (af := ?af) rfl (fun pre => Stb.ex fun _ => stb_hd hlw) (fun _ _ => Stb.pure _ _) (fun _ _ ⟨_, h⟩ => HT3.out _ h.kept) ?assign ?body) ⟨_, hst.out⟩ ?done ?stop)
  case assign =>
    intro l i W K hK
    gi_wp2
    exact hK
  case body =>
    rintro l pre i W hB - ⟨vo, hi⟩ hp
    have hle := HLen.out pre i hp
    have HI := Lib.hid hi
    have c9 := bx_cell hi.c9 0 _ rfl
    have hbase := hi.kept.size
    clear hi hp
    gi_wp2_with (gi_at_builtin; refine wpListIn_append_lies rfl (.tmp 27) (.tmp 29) 23 rfl w.heap.size 3 i0 _ 1 8 Tryd.underlying23 Hi.out.1 Hi.out.2.1 Hi.out.2.2.1 Hi.out.2.2.2 rfl (by omega) vo pre.length (pre.map vn) rfl (own_kept HI.out.own ((Kept.refl W).alloc _)) ⟨W.heap.size, 0, none⟩ 1 1 [.int .i64 (i : Int)] rfl rfl (World.news_of_block (cs := #[.int .i64 (i : Int)]) (heap_alloc_new W _)) (by simp [Value.oneCell']) (by omega) (by simp only [maxLen]; omega) (by omega) (by simp; omega) ?_; intro g7 cap7 W9 hown hgrow hat hlt7; have c99 := bx_cell (HI.out.grown hgrow).1 0 _ rfl; have f99 := bx_froz (HI.out.grown hgrow).1 0; have HI9 := Lib.hid (HI.out.push (i := i) hgrow hown); clear hown hgrow hat c9)
    exact ⟨KeepsFrom.low0 HI9.out.2, trivial, _, HI9.out.1⟩
  case done =>
    rintro D W hD ⟨vo, hi⟩ hk
    have c9 := bx_cell hi.c9 0 _ rfl
    have HI := Lib.hid hi
    clear hi hst
    obtain ⟨oa, oc, hvo⟩ := own_form HI.out.own
    subst hvo
    dsimp only
    go_wp2
    refine leaves_one hk (fun W' => results_tmp rfl _ _ _) ⟨_, rfl, Lib.hid ⟨Kept.trans_chg HI.out.kept (chg_putObj W D _) (fun k e => by subst e; omega), ?_⟩⟩
    have h := HI.out.own
    have e1 : (headL g f).map vi = (bitsL z).map vn := by rw [HBl.out]; unfold headL; rw [List.map_map]; rfl
    have e2 : (headL g f).length = (bitsL z).length := by rw [HBl.out]; unfold headL; rw [List.length_map]
    rw [e1, e2]
    exact (stb_own D _ _ _ _ _).put h (Nat.le_refl _) hk rfl _
  case stop =>
    intro D c pre W _ _ h
    exact h.elim
end Go.Proofs.YtpkebokfbigggaaDoor.Shp
