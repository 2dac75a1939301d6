/-
  Package shape: parted.
-/
import Derived.Test.YtpkebokfbigggaaDoorShqL
namespace Go.Proofs.YtpkebokfbigggaaDoor.Shp
open Go.RowKit Go.Shelf
open Classical
attribute [local go_sem] Oper.semAt_some

structure PtI (w W : World) (bb ob b5 : Nat) (g : Gr) (f : Int) (X : List Nat) (h : Nat) : Prop where
  kept : Kept w W
  dm : Gs W bb (domL g f)
  on : Gs W ob X
  hd : Box W b5 h
  low : w.heap.size ≤ b5 ∧ b5 < ob ∧ ob < bb
theorem PtI.keep {w W W' : World} {bb ob b5 h : Nat} {g : Gr} {f : Int} {X : List Nat} (H : PtI w W bb ob b5 g f X h) (hk : Kept W W') : PtI w W' bb ob b5 g f X h := ⟨H.kept.trans hk, H.dm.kept hk, H.on.kept hk, H.hd.kept hk, H.low⟩
theorem pt_new (w : World) (n : Nat) (W : World) (hW : (w.alloc (.cells (setC 0) 42)).alloc (.cells (madeCells (setC 0) (n * 32)) 42) = W) : Kept w W ∧ Box W w.heap.size 0 ∧ Gs W (w.heap.size + 1) (List.replicate n 0) := by
  have h1 := Box.new w 0
  have k1 := (Kept.refl w).alloc (.cells (setC 0) 42)
  have e1 : (w.alloc (.cells (setC 0) 42)).heap.size = w.heap.size + 1 := by simp
  generalize w.alloc (.cells (setC 0) 42) = w1 at *
  have k2 := (Kept.refl w1).alloc (.cells (madeCells (setC 0) (n * 32)) 42)
  have h2 := gs_made w1 n
  rw [e1] at h2
  rw [hW] at k2 h2
  exact ⟨k1.trans k2, h1.kept k2, h2⟩

section
variable {F : Fence} {n : Nat} {P : Program} {ops : Array Oper} {Q : Exit → Act → World → Prop} {a0 : Act}
/-- The region, its slots as a list, its values as they come. -/
theorem region_dv (ds : List (Option Nat)) (vals : Nat → Value) (Inv : (Nat → Value) → Array Bool → World → Prop) (m : Nat) {id : Nat} {w : World} (hm : P.follows .mixedOrders = true) (hsz : a0.tmps.size = m) (h1 : dsOk ds m = true) (h2 : opsOk ops ds = true)
    (hlow : lowB ops = true) (h0 : Inv vals (Array.replicate ops.size false) { w with drawn := w.drawn + 1 })
    (hstep : ∀ i o L vals a w (K : Act → World → Prop), ops[i]? = some o → L.getD i false = false → L.size = ops.size → (∀ e ∈ o.after, Region.binds .any e = true → L.getD e.on false = true) →
      (∀ j s, j < ops.size → ds.getD j none = some s → L.getD j false = true → a.eval (.tmp s) = vals j) → (∀ s, notIn ds s = true → a.eval (.tmp s) = a0.eval (.tmp s)) → (∀ i s, i < ops.size → ds.getD i none = some s → L.getD i false = false → a.eval (.tmp s) = a0.eval (.tmp s)) →
      Inv vals L w → (∀ v w', Inv (upv vals i v) (L.setIfInBounds i true) w' → K (a.put o.dst v) w') → o.wpIn F n P a w K Q)
    (hend : ∀ L vals w, (∀ i, i < ops.size → L.getD i false = true) → Inv vals L w → Q .normal { tmps := putD (fun i => ds.getD i none) vals ops.size a0.tmps, defers := a0.defers } w) :
    (Code.region id ops true).wpIn F n P Q a0 w := by
  unfold opsOk at h2
  rw [Bool.and_eq_true, decide_eq_true_eq, List.all_eq_true] at h2
  obtain ⟨hlen, h2⟩ := h2
  unfold dsOk at h1
  rw [List.all_eq_true] at h1
  have h1' : ∀ i s, i < ops.size → ds.getD i none = some s → s < m ∧ ∀ j, j < ops.size → ds.getD j none = some s → j = i := fun i s hi hs => by
    have h3 := h1 i (List.mem_range.2 (by omega))
    rw [hs] at h3
    simp only [Bool.and_eq_true, decide_eq_true_eq, List.all_eq_true, Bool.or_eq_true] at h3
    refine ⟨h3.1, fun j hj e => ?_⟩
    rcases h3.2 j (List.mem_range.2 (by omega)) with k | k
    · exact k
    · exact absurd e k
  have h2' : ∀ i o, ops[i]? = some o → o.dst = ds.getD i none ∧ o.guard = none := fun i o ho => by
    have h3 := h2 i (List.mem_range.2 (Array.getElem?_eq_some_iff.1 ho).1)
    rw [ho] at h3
    simpa using h3
  refine region_invs (fun i => ds.getD i none) vals Inv hm (fun i s hi hs => by rw [hsz]; exact (h1' i s hi hs).1) (fun i j s hi hj hs hs' => ((h1' j s hj hs').2 i hi hs)) h2' hlow h0 ?_ hend
  intro i o L vals a w K ho hf hL hdep hF hI hK
  refine hstep i o L vals a w K ho hf hL hdep (fun j s hj hs hl => hF.val j s hj hs hl) (fun s hs => hF.old s fun j hj e => ?_) (fun j s hj hs hl => ?_) hI (by rw [(h2' i o ho).1]; exact hK)
  · unfold notIn at hs
    rw [List.all_eq_true] at hs
    exact of_decide_eq_true (hs j (List.mem_range.2 (by omega))) e
  · simp only [Act.eval]
    rw [Array.getD_eq_getD_getElem?, Array.getD_eq_getD_getElem?, hF.old' s fun i hi hl' e => by
      have := (h1' j s hj hs).2 i hi e
      subst this
      rw [hl] at hl'; cases hl']
end
/-- One set alone, as a slice of one. -/
theorem box_gs {w : World} {b x : Nat} : Box w b x ↔ Gs w b [x] := by
  constructor
  · intro h
    refine ⟨setC x, h, by simp [setC_size], fun j hj i hi => ?_⟩
    obtain rfl : j = 0 := by simpa using hj
    rw [Nat.zero_mul, Nat.zero_add]
    exact setC_at x i hi
  · rintro ⟨cs, h1, h2, h3⟩
    have e : cs = setC x := by
      apply Array.ext (by rw [h2, setC_size]; rfl)
      intro i k1 k2
      have := h3 0 (by simp) i (by rw [setC_size] at k2; exact k2)
      rw [Nat.zero_mul, Nat.zero_add] at this
      have h4 := setC_at x i (by rw [setC_size] at k2; exact k2)
      rw [Array.getElem?_eq_getElem k1] at this
      rw [Array.getElem?_eq_getElem k2] at h4
      exact Option.some.inj (this.trans h4.symm)
    subst e
    exact h1
theorem box_store {w : World} {b x : Nat} (h : Box w b x) (z : Nat) : ∃ w', (storeVar 42 ⟨b, 0, none⟩ (.agg (setC z))).run Tryd.prog w = .ok () w' ∧ Chg (fun k => k = b) w w' ∧ Box w' b z := by
  obtain ⟨w', h1, h2, h3⟩ := gs_store (box_gs.1 h) (j := 0) (by simp) z
  rw [Nat.zero_mul] at h1
  exact ⟨w', h1, h2, box_gs.2 h3⟩
theorem zero_set (w : World) : (zeroValue 42).run Tryd.prog w = .ok (.agg (setC 0)) w := by
  rw [setC_zero]
  exact Tryd.zeroValue42 w
theorem kept_grown {S : Nat → Prop} {w W W' : World} (h : Kept w W) (hc : Chg S W W') (hs : ∀ k, S k → w.heap.size ≤ k) : Kept w W' :=
  ⟨hc.os.trans h.os, hc.tape.trans h.tape, hc.output.trans h.output, Nat.le_trans h.size hc.size, fun k hk => (hc.block k (Nat.lt_of_lt_of_le hk h.size) fun q => by have := hs k q; omega).trans (h.block k hk)⟩
theorem res_pair {fn : Func} {i j : Nat} {tm : Array Value} {w : World} {b x : Nat} {u : Value} (hf : fn.results = #[.tmp i, .cell j 42]) (hu : tm[i]? = some u) (ht : tm[j]? = some (.pointer (some ⟨b, 0, none⟩))) (h : Box w b x) : (results fn tm).run Tryd.prog w = .ok (.tuple #[u, .agg (setC x)]) w := by
  have h1 : tm.getD i undef = u := by rw [Array.getD_eq_getD_getElem?, hu]; rfl
  have h2 : tm.getD j undef = .pointer (some ⟨b, 0, none⟩) := by rw [Array.getD_eq_getD_getElem?, ht]; rfl
  simp only [results, hf]
  simp only [Array.mapM_eq_mapM_toList, List.mapM_cons, List.mapM_nil, bind_pure_comp, h1, h2]
  simp [Sem.run_bind, asAddr, h.load, Result.andThen_ok]
set_option maxRecDepth 100000 in
set_option maxHeartbeats 4000000 in
theorem gparted_any (w : World) (gb : Nat) (g : Gr) (f : Int) (hg : Gs w gb (xeL g)) (hl : g.length ≤ 30) (hT : Tab w) :
    Calls Tryd.prog 31 #[.slice (some ⟨gb, 0, none⟩) g.length g.length, .int .i64 f] w fun e w' => ∃ ob, e = .returned (.tuple #[.slice (some ⟨ob, 0, none⟩) g.length g.length, .agg (setC (hdN g f))]) ∧ Hid (Kept w w' ∧ w.heap.size ≤ ob ∧ Gs w' ob (onL g f)) := by
  have HG := Lib.hid hg
  have HT := Lib.hid hT
  have hm := made_sets 36 Tryd.underlying36 g.length (by omega)
  clear hg hT
  go_enter Tryd.func31, Tryd.ntmps31
  go_upto_region 2 with fail
  rw [← setC_zero]
  have hst := Lib.hid (pt_new w g.length _ rfl)
  clear hm
  generalize hw1 : (w.alloc (.cells (setC 0) 42)).alloc (.cells (madeCells (setC 0) (g.length * 32)) 42) = w1 at *
  generalize hb5 : w.heap.size = b5 at *
  generalize hob : b5 + 1 = ob at *
  have HD := Lib.hid (gdoms_any w1 gb g f (HG.out.kept hst.out.1) hl (HT.out.kept hst.out.1))
  go_upto_region 3 with (go_at_call 28; refine (HD.out).mono ?_; rintro e w2 ⟨bb, rfl, H2⟩)
  have hobs := hst.out.2.2.lt
  have hst2 : Hid (PtI w w2 bb ob b5 g f (onP g f 0) (hdP g f 0)) := Lib.hid (by
    obtain ⟨q1, q2, q3⟩ := hst.out
    obtain ⟨k, k2, k3⟩ := H2.out
    rw [onP_zero, hd_zero]
    exact ⟨q1.trans k, k3, q3.kept k, q2.kept k, by omega, by omega, by omega⟩)
  clear hst HD H2 hobs hw1
  go_loopg [16] (g.length) (fun m i wz => ∃ k : Nat, m = g.length - k ∧ k ≤ g.length ∧ i = .int .i64 (k : Int) ∧ Hid (PtI w wz bb ob b5 g f (onP g f k) (hdP g f k)))
  case atStart => exact ⟨0, by omega, by omega, rfl, hst2⟩
  case round =>
    clear hst2
    obtain ⟨k, rfl, hk, rfl, HK⟩ := hrel
    by_cases hlt : k < g.length
    case neg =>
      obtain rfl : k = g.length := by omega
      rw [onP_end, hd_end] at HK
      clear hlt
      go_upto_region 10 with fail
      have HK2 := Lib.hid HK.out
      refine (wpIn_wide (n := 0)).1 ?_
      refine region_dv [some 41, some 42, some 4, none] (fun _ => undef)
        (fun vals L W => (L.getD 0 false = true → vals 0 = .slice (some ⟨ob, 0, none⟩) g.length g.length) ∧ (L.getD 1 false = true → vals 1 = .agg (setC (hdN g f))) ∧ (L.getD 2 false = true → vals 2 = .slice (some ⟨ob, 0, none⟩) g.length g.length) ∧ PtI w W bb ob b5 g f (onL g f) (hdN g f))
        43 (by kernel_rfl) (by simp) (by kernel_rfl) (by kernel_rfl) (by kernel_rfl) ⟨fun h => by simp at h, fun h => by simp at h, fun h => by simp at h, HK2.out.keep ((Kept.refl wr).drewN 1)⟩ ?hstep ?hend
      case hend =>
        intro L vals W hall ⟨j0, j1, j2, hJ⟩
        have e0 := j0 (hall 0 (by simp))
        have e1 := j1 (hall 1 (by simp))
        have e2 := j2 (hall 2 (by simp))
        simp only [putD, List.size_toArray, List.length_cons, List.length_nil, List.setIfInBounds_toArray, List.set_cons_zero, List.set_cons_succ, Nat.reduceAdd, List.getD_cons_zero, List.getD_cons_succ, e0, e1, e2]
        go_wp2
        refine bodyPost_ret_by (res_pair rfl rfl rfl hJ.hd) rfl ⟨_, rfl, Lib.hid ⟨hJ.kept, ?_, hJ.on⟩⟩
        have := hJ.low
        omega
      case hstep =>
        intro i o L vals a W K ho hf hL hdep hev hold hnew ⟨j0, j1, j2, hJ⟩ hK
        have hi4 : i < 4 := by have := (Array.getElem?_eq_some_iff.1 ho).1; simpa using this
        have hset : ∀ p, (L.setIfInBounds i true).getD p false = if i = p then true else L.getD p false := fun p => getD_set (by have := (Array.getElem?_eq_some_iff.1 ho).1; omega)
        rcases (by omega : i = 0 ∨ i = 1 ∨ i = 2 ∨ i = 3) with rfl | rfl | rfl | rfl
        · obtain rfl := Option.some.inj ho
          have e : a.eval (.tmp 4) = .slice (some ⟨ob, 0, none⟩) g.length g.length := by
            cases h2 : L.getD 2 false with
            | true => rw [hev 2 4 (by simp) rfl h2, j2 h2]
            | false => exact (hnew 2 4 (by simp) rfl h2).trans rfl
          exact opIn_moveW rfl e (hK _ _ ⟨fun _ => upv_same _ _ _, fun h => by rw [upv_other _ _ (by decide)]; exact j1 (by simpa [hset] using h), fun h => by rw [upv_other _ _ (by decide)]; exact j2 (by simpa [hset] using h), hJ⟩)
        · obtain rfl := Option.some.inj ho
          exact opIn_loadW rfl ((hold 5 (by kernel_rfl)).trans rfl) hJ.hd.load (hK _ _ ⟨fun h => by rw [upv_other _ _ (by decide)]; exact j0 (by simpa [hset] using h), fun _ => upv_same _ _ _, fun h => by rw [upv_other _ _ (by decide)]; exact j2 (by simpa [hset] using h), hJ⟩)
        · obtain rfl := Option.some.inj ho
          have d0 := dep_of hdep (i := 0) (by kernel_rfl)
          exact opIn_assignW rfl ((hev 0 41 (by simp) rfl d0).trans (j0 d0)) (hK _ _ ⟨fun h => by rw [upv_other _ _ (by decide)]; exact j0 (by simpa [hset] using h), fun h => by rw [upv_other _ _ (by decide)]; exact j1 (by simpa [hset] using h), fun _ => upv_same _ _ _, hJ⟩)
        · obtain rfl := Option.some.inj ho
          have d1 := dep_of hdep (i := 1) (by kernel_rfl)
          obtain ⟨W', r1, r2, r3⟩ := box_store hJ.hd (hdN g f)
          refine opIn_store rfl ((hold 5 (by kernel_rfl)).trans rfl) ((hev 1 42 (by simp) rfl d1).trans (j1 d1)) r1 (hK _ _ ⟨fun h => by rw [upv_other _ _ (by decide)]; exact j0 (by simpa [hset] using h), fun h => by rw [upv_other _ _ (by decide)]; exact j1 (by simpa [hset] using h), fun h => by rw [upv_other _ _ (by decide)]; exact j2 (by simpa [hset] using h), ?_⟩)
          have hlo := hJ.low
          exact ⟨kept_grown hJ.kept r2 (fun k e => by omega), hJ.dm.chg r2 (by omega), hJ.on.chg r2 (by omega), r3, hJ.low⟩
    case pos =>
      have hzl : k < (domL g f).length := by rw [domL_len]; exact hlt
      have HZ := Lib.hid (show SetAt wr bb (k * 32) (dmN g f k) from by have := HK.out.dm.at hzl; rwa [domL_at] at this)
      obtain ⟨z, hz⟩ : ∃ z, dmN g f k = z := ⟨_, rfl⟩
      rw [hz] at HZ
      have HB7 := Box.new wr z
      have hsc := store_new wr z
      rw [setC_zero] at hsc
      have hA := Lib.hid ((Kept.refl wr).alloc (.cells (setC z) 42))
      go_upto_region 5 with (refine wpList_load_set rfl _ rfl bb (k * 32) z rfl HZ.out ?_)
      have HP := Lib.hid (HK.out.keep hA.out)
      clear hsc HK HZ hA
      generalize hw3 : wr.alloc (.cells (setC z) 42) = w3 at *
      generalize hb7 : wr.heap.size = b7 at *
      have hb7s : b7 < w3.heap.size := HB7.lt
      clear hw3
      by_cases hr : ReI g f k
      case neg =>
        have hz0 : z = 0 := by rw [← hz]; exact dmN_zero.2 hr
        rw [onP_skip hr, hd_skip hr] at HP
        subst hz0
        clear hr hz
        go_wp2_with (first | (refine wpList_load_row rfl _ _ rfl b7 rfl 42 (setC 0) (0, 0) _ HB7 Tryd.underlying42 rfl (info42 0) ?_) | (refine wpList_eqset rfl _ _ rfl 0 rfl rfl ?_))
        go_roundg (g.length - (k + 1))
        case measure => omega
        case rel => exact ⟨k + 1, rfl, by omega, by simp, HP⟩
      case pos =>
        have hz0 : (z == 0) = false := by
          rw [beq_eq_false_iff_ne, ← hz]
          exact fun e => dmN_zero.1 e hr
        have HB7h := Lib.hid HB7
        go_upto_region 6 with (first | (refine wpList_load_row rfl _ _ rfl b7 rfl 42 (setC z) (0, 0) _ HB7 Tryd.underlying42 rfl (info42 z) ?_) | (refine wpList_eqset rfl _ _ rfl z rfl rfl ?_))
        dsimp only [Act.put]
        rw [← setC_zero]
        have hxb : xeN g k < 4294967296 := setN_lt' (m := 32) (by omega) _
        have hzb : z < 4294967296 := by rw [← hz]; exact setN_lt' (m := 32) (by omega) _
        have hdb : hdP g f k < 4294967296 := setN_lt' (m := 32) (by omega) _
        have HX := Lib.hid (fun W (h : Kept w W) => show SetAt W gb (k * 32) (xeN g k) from by
          have := (HG.out.kept h).at (j := k) (by rw [xeL_len]; exact hlt)
          rwa [xeL_at] at this)
        have HMt := Lib.hid (fun W => meet_any W (xeN g k) z hxb hzb)
        have hyb : xeN g k &&& z < 4294967296 := Nat.lt_of_le_of_lt Nat.and_le_left hxb
        have HLs := Lib.hid (fun W => less_any W (xeN g k) (xeN g k &&& z) hxb hyb)
        have hls : lessN (xeN g k) (xeN g k &&& z) = onN g f k := by rw [← hz]; exact on_less (by omega) hr
        have hst1 : hdP g f k ||| (xeN g k &&& z) = hdP g f (k + 1) := by rw [← hz]; exact hd_step
        rw [hls] at HLs
        clear hz hr hls HB7
        obtain ⟨y, hy⟩ : ∃ y, xeN g k &&& z = y := ⟨_, rfl⟩
        rw [hy] at HMt HLs hyb hst1
        clear hy
        refine (wpIn_wide (n := 0)).1 ?_
        refine region_dv [some 24, some 25, some 26, some 27, some 28, some 29, some 8, none] (fun _ => undef)
          (fun vals L W => (∀ i, i < 6 → L.getD i false = true → vals i = [.slice (some ⟨gb, 0, none⟩) g.length g.length, .int .i64 (k : Int), .pointer (some ⟨gb, k * 32, none⟩), .agg (setC (xeN g k)), .agg (setC z), .agg (setC y)].getD i undef) ∧
            (L.getD 6 false = true → ∃ b8, vals 6 = .pointer (some ⟨b8, 0, none⟩) ∧ w3.heap.size ≤ b8 ∧ ∃ x, Box W b8 x ∧ (L.getD 7 false = true → x = y)) ∧ (L.getD 7 false = true → L.getD 6 false = true) ∧ Kept w3 W)
          43 (by kernel_rfl) (by simp) (by kernel_rfl) (by kernel_rfl) (by kernel_rfl) ⟨fun i _ h => by simp [Array.getD_eq_getD_getElem?, Array.getElem?_replicate] at h; split at h <;> simp at h, fun h => by simp at h, fun h => by simp at h, (Kept.refl w3).drewN 1⟩ ?hstep ?hend
        case hstep =>
          intro i o L vals a W K ho hf hL hdep hev hold hnew ⟨j0, j1, j2, hJ⟩ hK
          have hi8 : i < 8 := by have := (Array.getElem?_eq_some_iff.1 ho).1; simpa using this
          have hset : ∀ p, (L.setIfInBounds i true).getD p false = if i = p then true else L.getD p false := fun p => getD_set (by have := (Array.getElem?_eq_some_iff.1 ho).1; omega)
          have hkp : ∀ v W', i ≠ 6 → i ≠ 7 → Kept W W' → ((upv vals i v) i = [.slice (some ⟨gb, 0, none⟩) g.length g.length, .int .i64 (k : Int), .pointer (some ⟨gb, k * 32, none⟩), .agg (setC (xeN g k)), .agg (setC z), .agg (setC y)].getD i undef) → K (a.put o.dst v) W' := fun v W' n6 n7 hk' hv => hK v W' ⟨fun p hp hl => by
              by_cases e : i = p
              · subst e; exact hv
              · rw [upv_other _ _ (Ne.symm e)]
                rw [hset, if_neg e] at hl
                exact j0 p hp hl, fun hl => by
              rw [hset, if_neg n6] at hl
              obtain ⟨b8, q1, q2, x, q3, q4⟩ := j1 hl
              rw [upv_other _ _ (Ne.symm n6)]
              exact ⟨b8, q1, q2, x, q3.kept hk', fun h7 => by rw [hset, if_neg n7] at h7; exact q4 h7⟩, fun h7 => by rw [hset, if_neg n7] at h7; rw [hset, if_neg n6]; exact j2 h7, hJ.trans hk'⟩
          rcases (by omega : i = 0 ∨ i = 1 ∨ i = 2 ∨ i = 3 ∨ i = 4 ∨ i = 5 ∨ i = 6 ∨ i = 7) with rfl | rfl | rfl | rfl | rfl | rfl | rfl | rfl
          · obtain rfl := Option.some.inj ho
            exact opIn_moveW rfl ((hold 0 (by kernel_rfl)).trans rfl) (hkp _ _ (by decide) (by decide) (Kept.refl _) (upv_same _ _ _))
          · obtain rfl := Option.some.inj ho
            exact opIn_moveW rfl ((hold 6 (by kernel_rfl)).trans rfl) (hkp _ _ (by decide) (by decide) (Kept.refl _) (upv_same _ _ _))
          · obtain rfl := Option.some.inj ho
            have d0 := dep_of hdep (i := 0) (by kernel_rfl)
            have d1 := dep_of hdep (i := 1) (by kernel_rfl)
            exact opIn_indexW rfl ((hev 0 24 (by simp) rfl d0).trans (j0 0 (by decide) d0)) ((hev 1 25 (by simp) rfl d1).trans (j0 1 (by decide) d1)) Tryd.underlying35 (Tryd.sizeOf42) hlt (hkp _ _ (by decide) (by decide) (Kept.refl _) (upv_same _ _ _))
          · obtain rfl := Option.some.inj ho
            have d2 := dep_of hdep (i := 2) (by kernel_rfl)
            exact opIn_loadW rfl ((hev 2 26 (by simp) rfl d2).trans (j0 2 (by decide) d2)) (HX.out _ (HP.out.kept.trans hJ)).load (hkp _ _ (by decide) (by decide) (Kept.refl _) (upv_same _ _ _))
          · obtain rfl := Option.some.inj ho
            exact opIn_loadW rfl ((hold 7 (by kernel_rfl)).trans rfl) (HB7h.out.kept hJ).load (hkp _ _ (by decide) (by decide) (Kept.refl _) (upv_same _ _ _))
          · obtain rfl := Option.some.inj ho
            have d3 := dep_of hdep (i := 3) (by kernel_rfl)
            have d4 := dep_of hdep (i := 4) (by kernel_rfl)
            refine opIn_callW (args := #[.agg (setC (xeN g k)), .agg (setC z)]) rfl (by simp [(hev 3 27 (by simp) rfl d3).trans (j0 3 (by decide) d3), (hev 4 28 (by simp) rfl d4).trans (j0 4 (by decide) d4)]) (enters_of Tryd.func40 (by kernel_rfl) rfl _) (fun _ => trivial) (fun h => by cases h) (callsIn_wide.2 (HMt.out W)) ?_
            rintro e W2 ⟨rfl, h⟩
            exact ⟨_, rfl, hkp _ _ (by decide) (by decide) h (upv_same _ _ _)⟩
          · obtain rfl := Option.some.inj ho
            refine opIn_alloc rfl zero_set (hK _ _ ⟨fun p hp hl => ?_, fun hl => ⟨_, upv_same _ _ _, hJ.size, 0, Box.new _ _, fun h7 => ?_⟩, fun _ => by rw [hset, if_pos rfl], hJ.alloc _⟩)
            · rw [upv_other _ _ (by omega)]
              rw [hset, if_neg (by omega)] at hl
              exact j0 p hp hl
            · rw [hset, if_neg (by decide)] at h7
              rw [j2 h7] at hf; cases hf
          · obtain rfl := Option.some.inj ho
            have d5 := dep_of hdep (i := 5) (by kernel_rfl)
            have d6 := dep_of hdep (i := 6) (by kernel_rfl)
            obtain ⟨b8, q1, q2, x, q3, q4⟩ := j1 d6
            obtain ⟨W', r1, r2, r3⟩ := box_store q3 y
            refine opIn_store rfl ((hev 6 8 (by simp) rfl d6).trans q1) ((hev 5 29 (by simp) rfl d5).trans (j0 5 (by decide) d5)) r1 (hK _ _ ⟨fun p hp hl => ?_, fun hl => ⟨b8, by rw [upv_other _ _ (by decide)]; exact q1, q2, y, r3, fun _ => rfl⟩, fun _ => by rw [hset, if_neg (by decide)]; exact d6, kept_grown hJ r2 (fun k e => by omega)⟩)
            rw [upv_other _ _ (by omega)]
            rw [hset, if_neg (by omega)] at hl
            exact j0 p hp hl
        case hend =>
          intro L vals W hall ⟨j0, j1, _, hJ⟩
          obtain ⟨b8, q1, q2, x, q3, q4⟩ := j1 (hall 6 (by simp))
          obtain rfl := q4 (hall 7 (by simp))
          have e0 := j0 0 (by decide) (hall 0 (by simp))
          have e1 := j0 1 (by decide) (hall 1 (by simp))
          have e2 := j0 2 (by decide) (hall 2 (by simp))
          have e3 := j0 3 (by decide) (hall 3 (by simp))
          have e4 := j0 4 (by decide) (hall 4 (by simp))
          have e5 := j0 5 (by decide) (hall 5 (by simp))
          simp only [List.getD_cons_zero, List.getD_cons_succ] at e0 e1 e2 e3 e4 e5
          simp only [putD, List.size_toArray, List.length_cons, List.length_nil, List.setIfInBounds_toArray, List.set_cons_zero, List.set_cons_succ, Nat.reduceAdd, List.getD_cons_zero, List.getD_cons_succ, e0, e1, e2, e3, e4, e5, q1]
          clear e0 e1 e2 e3 e4 e5 j0 j1 hall q1
          have HPn := Lib.hid (HP.out.keep hJ)
          have HB8 := Lib.hid q3
          have hb5 : b5 < w3.heap.size := HP.out.hd.lt
          have hobl : ob < w3.heap.size := HP.out.on.lt
          have hbbl : bb < w3.heap.size := HP.out.dm.lt
          clear HP HB7h hJ q3
          have HJn := Lib.hid (fun W hb hc => join_any W b5 b8 0 (hdP g f k) x hdb hyb hb hc (by omega))
          rw [hst1] at HJn
          go_upto_region 8 with (go_at_call 37; refine (HJn.out _ HPn.out.hd HB8.out.at).mono ?_; rintro e w4 ⟨rfl, HQ⟩)
          have hlo := HPn.out.low
          have hst4 : Hid (PtI w w4 bb ob b5 g f (onP g f k) (hdP g f (k + 1)) ∧ Box w4 b8 x) := Lib.hid (by
            obtain ⟨q1, q2⟩ := HQ.out
            exact ⟨⟨kept_grown HPn.out.kept q1 (fun k e => by omega), HPn.out.dm.chg q1 (by omega), HPn.out.on.chg q1 (by omega), q2, hlo⟩, HB8.out.chg q1 (by omega)⟩)
          clear HPn HB8 HQ HJn hst1
          refine (wpIn_wide (n := 0)).1 ?_
          refine region_ds [some 31, some 32, some 33, some 34, some 35, some 36, some 37, some 38, some 39, none]
            (fun i => [.slice (some ⟨ob, 0, none⟩) g.length g.length, .int .i64 (k : Int), .slice (some ⟨gb, 0, none⟩) g.length g.length, .int .i64 (k : Int), .pointer (some ⟨gb, k * 32, none⟩), .agg (setC (xeN g k)), .agg (setC x), .agg (setC (onN g f k)), .pointer (some ⟨ob, k * 32, none⟩)].getD i undef)
            (fun L W => PtI w W bb ob b5 g f (if L.getD 9 false = true then onP g f (k + 1) else onP g f k) (hdP g f (k + 1)) ∧ Box W b8 x)
            43 (by kernel_rfl) (by simp) (by kernel_rfl) (by kernel_rfl) (by kernel_rfl) ⟨hst4.out.1.keep ((Kept.refl w4).drewN 1), hst4.out.2.kept ((Kept.refl w4).drewN 1)⟩ ?hstep2 ?hend2
          case hend2 =>
            intro L W hall ⟨hJ, _⟩
            rw [if_pos (hall 9 (by simp))] at hJ
            have HJ := Lib.hid hJ
            clear hJ hst4 hall
            simp only [putD, List.size_toArray, List.length_cons, List.length_nil, List.setIfInBounds_toArray, List.set_cons_zero, List.set_cons_succ, Nat.reduceAdd, List.getD_cons_zero, List.getD_cons_succ]
            go_wp2
            go_roundg (g.length - (k + 1))
            case measure => omega
            case rel => exact ⟨k + 1, rfl, by omega, by simp, HJ⟩
          case hstep2 =>
            intro i o L a W K ho hf hL hdep hev hold ⟨hJ, hB⟩ hK
            have hset : ∀ p, (L.setIfInBounds i true).getD p false = if i = p then true else L.getD p false := fun p => getD_set (by have := (Array.getElem?_eq_some_iff.1 ho).1; omega)
            have hkeep : i ≠ 9 → ∀ W', Kept W W' → PtI w W' bb ob b5 g f (if (L.setIfInBounds i true).getD 9 false = true then onP g f (k + 1) else onP g f k) (hdP g f (k + 1)) ∧ Box W' b8 x := fun n1 W' hk' => by
              rw [hset, if_neg n1]; exact ⟨hJ.keep hk', hB.kept hk'⟩
            have hi10 : i < 10 := by have := (Array.getElem?_eq_some_iff.1 ho).1; simpa using this
            rcases (by omega : i = 0 ∨ i = 1 ∨ i = 2 ∨ i = 3 ∨ i = 4 ∨ i = 5 ∨ i = 6 ∨ i = 7 ∨ i = 8 ∨ i = 9) with rfl | rfl | rfl | rfl | rfl | rfl | rfl | rfl | rfl | rfl
            · obtain rfl := Option.some.inj ho
              exact opIn_moveW rfl ((hold 4 (by kernel_rfl)).trans rfl) (hK _ (hkeep (by decide) _ (Kept.refl _)))
            · obtain rfl := Option.some.inj ho
              exact opIn_moveW rfl ((hold 6 (by kernel_rfl)).trans rfl) (hK _ (hkeep (by decide) _ (Kept.refl _)))
            · obtain rfl := Option.some.inj ho
              exact opIn_moveW rfl ((hold 0 (by kernel_rfl)).trans rfl) (hK _ (hkeep (by decide) _ (Kept.refl _)))
            · obtain rfl := Option.some.inj ho
              exact opIn_moveW rfl ((hold 6 (by kernel_rfl)).trans rfl) (hK _ (hkeep (by decide) _ (Kept.refl _)))
            · obtain rfl := Option.some.inj ho
              exact opIn_indexW rfl (hev 2 33 (by simp) rfl (dep_of hdep (by kernel_rfl))) (hev 3 34 (by simp) rfl (dep_of hdep (by kernel_rfl))) Tryd.underlying35 (Tryd.sizeOf42) hlt (hK _ (hkeep (by decide) _ (Kept.refl _)))
            · obtain rfl := Option.some.inj ho
              exact opIn_loadW rfl (hev 4 35 (by simp) rfl (dep_of hdep (by kernel_rfl))) (HX.out W hJ.kept).load (hK _ (hkeep (by decide) _ (Kept.refl _)))
            · obtain rfl := Option.some.inj ho
              exact opIn_loadW rfl ((hold 8 (by kernel_rfl)).trans rfl) hB.load (hK _ (hkeep (by decide) _ (Kept.refl _)))
            · obtain rfl := Option.some.inj ho
              refine opIn_callW (args := #[.agg (setC (xeN g k)), .agg (setC x)]) rfl (by simp [hev 5 36 (by simp) rfl (dep_of hdep (by kernel_rfl)), hev 6 37 (by simp) rfl (dep_of hdep (by kernel_rfl))]) (enters_of Tryd.func38 (by kernel_rfl) rfl _) (fun _ => trivial) (fun h => by cases h) (callsIn_wide.2 (HLs.out W)) ?_
              rintro e W2 ⟨rfl, h⟩
              exact ⟨_, rfl, hK _ (hkeep (by decide) _ h)⟩
            · obtain rfl := Option.some.inj ho
              exact opIn_indexW rfl (hev 0 31 (by simp) rfl (dep_of hdep (by kernel_rfl))) (hev 1 32 (by simp) rfl (dep_of hdep (by kernel_rfl))) Tryd.underlying35 (Tryd.sizeOf42) hlt (hK _ (hkeep (by decide) _ (Kept.refl _)))
            · obtain rfl := Option.some.inj ho
              rw [if_neg (by rw [hf]; decide)] at hJ
              obtain ⟨W', r1, r2, r3⟩ := gs_store hJ.on (j := k) (by rw [onP_len]; exact hlt) (onN g f k)
              rw [onP_set] at r3
              refine opIn_store rfl (hev 8 39 (by simp) rfl (dep_of hdep (by kernel_rfl))) (hev 7 38 (by simp) rfl (dep_of hdep (by kernel_rfl))) r1 (hK _ ?_)
              rw [hset, if_pos rfl, if_pos rfl]
              exact ⟨⟨kept_grown hJ.kept r2 (fun k e => by omega), hJ.dm.chg r2 (by omega), r3, hJ.hd.chg r2 (by omega), hJ.low⟩, hB.chg r2 (by omega)⟩
end Go.Proofs.YtpkebokfbigggaaDoor.Shp
