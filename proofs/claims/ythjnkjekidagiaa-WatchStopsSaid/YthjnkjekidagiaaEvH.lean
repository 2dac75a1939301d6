/-
  Package eval's reckoner: close.
-/
import Derived.Test.YthjnkjekidagiaaEvG
import Derived.Test.YthjnkjekidagiaaOrd
import Derived.Test.YthjnkjekidagiaaEvJ
import Derived.Deep.CutBlock
namespace Go.Proofs.Ythjnkjekidagiaa.Evl
open Go.RowKit
open Prs (Ex)
open Fnd (bx_cell bx_froz)
theorem idx0 (a b c d e f g h : Value) (w : World) : (Instr.index 126 (.agg #[a, b, c, d, e, f, g, h]) (.int .i64 0)).run Try.prog w = .ok (.agg #[a, b, c, d]) w := by kernel_rfl
theorem idx1 (a b c d e f g h : Value) (w : World) : (Instr.index 126 (.agg #[a, b, c, d, e, f, g, h]) (.int .i64 1)).run Try.prog w = .ok (.agg #[e, f, g, h]) w := by kernel_rfl
attribute [local go_sem] idx0 idx1
section
variable {w0 w w' : World} {q : Nat} {lv mv bv ov obv : Value} {l : List Ex} {E : Env} {g h : Nat → Nat} {e : Nat → List Bool} {a : Nat → List Ans}
theorem envT_form (H : EnvAt w mv bv ov obv E) (t : Nat) : ∃ mp bp bn bc op oa on oc, EnvAt w (.pointer mp) (.slice bp bn bc) (.pointer op) (.slice oa on oc) (envT E t) ∧ (if t = 0 then mv else ov) = .pointer mp ∧ (if t = 0 then bv else obv) = .slice bp bn bc ∧ ov = .pointer op ∧ obv = .slice oa on oc := by
  obtain ⟨mp, hm⟩ := H.mem.form
  obtain ⟨op, ho⟩ := H.old.form
  obtain ⟨bp, bn, bc, hb⟩ := binds_form H.binds
  obtain ⟨oa, on, oc, hob⟩ := binds_form H.olds
  unfold envT
  by_cases h0 : t = 0
  · simp only [if_pos h0]
    exact ⟨mp, bp, bn, bc, op, oa, on, oc, by rw [← hm, ← hb, ← ho, ← hob]; exact H, hm, hb, ho, hob⟩
  · simp only [if_neg h0]
    exact ⟨op, oa, on, oc, op, oa, on, oc, by rw [← ho, ← hob]; exact ⟨H.old, H.olds, H.old, H.olds⟩, ho, hob, ho, hob⟩
/-- The cells of what names have, at a time. -/
theorem Rk.envCells (H : Rk w0 w q lv mv bv ov obv l E g h e a) {t : Nat} (ht : t < 2) : ∃ mp bp bn bc op oa on oc, EnvAt w (.pointer mp) (.slice bp bn bc) (.pointer op) (.slice oa on oc) (envT E t) ∧
    ∀ w', Kept w w' → w'.cell? ⟨q, 1 + t * 6, none⟩ = some (.pointer mp) ∧ w'.cell? ⟨q, 1 + t * 6 + 1, none⟩ = some (.slice bp bn bc) ∧ w'.cell? ⟨q, 1 + t * 6 + 2, none⟩ = some (.pointer op) ∧ w'.cell? ⟨q, 1 + t * 6 + 3, none⟩ = some (.slice oa on oc) ∧ w'.cell? ⟨q, 1 + t * 6 + 4, none⟩ = some (.int .i64 (envT E t).res) ∧ w'.cell? ⟨q, 1 + t * 6 + 5, none⟩ = some (.int .i64 (envT E t).t) := by
  obtain ⟨mp, bp, bn, bc, op, oa, on, oc, hE, e1, e2, e3, e4⟩ := envT_form (H.env.kept H.kept) t
  refine ⟨mp, bp, bn, bc, op, oa, on, oc, hE, fun w' hk => ?_⟩
  have hb := kh H.box hk
  rcases (show t = 0 ∨ t = 1 by omega) with rfl | rfl
  · refine ⟨bx_cell hb _ _ ?_, bx_cell hb _ _ ?_, bx_cell hb _ _ ?_, bx_cell hb _ _ ?_, bx_cell hb _ _ rfl, bx_cell hb _ _ rfl⟩
    · rw [← e1]; rfl
    · rw [← e2]; rfl
    · rw [← e3]; rfl
    · rw [← e4]; rfl
  · refine ⟨bx_cell hb _ _ ?_, bx_cell hb _ _ ?_, bx_cell hb _ _ ?_, bx_cell hb _ _ ?_, bx_cell hb _ _ rfl, bx_cell hb _ _ rfl⟩
    · rw [← e1]; rfl
    · rw [← e2]; rfl
    · rw [← e3]; rfl
    · rw [← e4]; rfl
theorem Rk.ansSlice (H : Rk w0 w q lv mv bv ov obv l E g h e a) {t : Nat} (ht : t < 2) : w.cell? ⟨q, 15 + t, none⟩ = some (.slice (some ⟨h t, 0, none⟩) l.length l.length) := by
  rcases (show t = 0 ∨ t = 1 by omega) with rfl | rfl <;> exact bx_cell H.box _ _ rfl
/-- What was reckoned is struck, for a kid's undefined behaviour. -/
theorem close_own {wc wr : World} {bo i t : Nat} {x0 x1 x2 x3 : Value} {o : Obj} (K5 : Kept w wc) (K6 : Kept wc wr) (hb : w.heap.size ≤ bo) (hsp : wc.heap[w.heap.size]? = some (.cells #[.int .i64 i, .int .i64 t] 139 (0, 0))) (hbo : wc.heap[bo]? = some (.cells #[x0, x1, x2, x3] 124 (0, 0))) (a b c d : Value) :
    Kept w (((((wr.setCell ⟨bo, 0, none⟩ a).setCell ⟨bo, 1, none⟩ b).setCell ⟨bo, 2, none⟩ c).setCell ⟨bo, 3, none⟩ d).alloc o) ∧ (((((wr.setCell ⟨bo, 0, none⟩ a).setCell ⟨bo, 1, none⟩ b).setCell ⟨bo, 2, none⟩ c).setCell ⟨bo, 3, none⟩ d).alloc o).heap[bo]? = some (.cells #[a, b, c, d] 124 (0, 0)) ∧
    (((((wr.setCell ⟨bo, 0, none⟩ a).setCell ⟨bo, 1, none⟩ b).setCell ⟨bo, 2, none⟩ c).setCell ⟨bo, 3, none⟩ d).alloc o).heap[w.heap.size]? = some (.cells #[.int .i64 i, .int .i64 t] 139 (0, 0)) := by
  have xb := kh hbo K6
  have xs := kh hsp K6
  obtain ⟨s1, s2⟩ := Ord.set4 _ bo _ _ _ _ a b c d _ xb
  have k4 := Ord.below4 (K5.trans K6) hb a b c d
  have ka := (Kept.refl ((((wr.setCell ⟨bo, 0, none⟩ a).setCell ⟨bo, 1, none⟩ b).setCell ⟨bo, 2, none⟩ c).setCell ⟨bo, 3, none⟩ d)).alloc o
  exact ⟨Kept.trans k4 ka, kh s1 ka, kh ((s2 _ (hne xs xb (by decide))).trans xs) ka⟩
theorem close_note {W : World} (HR : Rk w0 W q lv mv bv ov obv l E g h e a) {i t : Nat} (ht : t < 2) (hi : i < l.length) (hW : Kept w W) (x : Ans) :
    Rk w0 ((((W.setCell ⟨h t, i * 4, none⟩ (.int .i64 x.v)).setCell ⟨h t, i * 4 + 1, none⟩ (.int .i64 x.t)).setCell ⟨h t, i * 4 + 2, none⟩ (.int .i64 x.ub)).setCell ⟨h t, i * 4 + 3, none⟩ (.int .i64 x.at_)).drew q lv mv bv ov obv l E g h e (updF a (i, t) x) ∧
    Rpr.Chg (Own2 g h) w ((((W.setCell ⟨h t, i * 4, none⟩ (.int .i64 x.v)).setCell ⟨h t, i * 4 + 1, none⟩ (.int .i64 x.t)).setCell ⟨h t, i * 4 + 2, none⟩ (.int .i64 x.ub)).setCell ⟨h t, i * 4 + 3, none⟩ (.int .i64 x.at_)).drew := by
  refine ⟨(HR.note ht hi x).keep (Kept.refl _).drew, ?_⟩
  have hs : Own2 g h (h t) := ⟨t, ht, .inr rfl⟩
  exact (((((Rpr.Chg.of_kept hW).setCell (p := ⟨h t, i * 4, none⟩) (fun _ => hs) _).setCell (p := ⟨h t, i * 4 + 1, none⟩) (fun _ => hs) _).setCell (p := ⟨h t, i * 4 + 2, none⟩) (fun _ => hs) _).setCell (p := ⟨h t, i * 4 + 3, none⟩) (fun _ => hs) _).drew
set_option maxRecDepth 100000 in
set_option maxHeartbeats 4000000 in
theorem close_any (H : Rk w0 w q lv mv bv ov obv l E g h e a) {i t : Nat} (hi : i < l.length) (ht : t < 2) : Calls Try.prog 88 #[.pointer (some ⟨q, 0, none⟩), spotV ((i : Int), t)] w fun x w' => (∃ v, x = .returned v) ∧
    Hid (Rk w0 w' q lv mv bv ov obv l E g h e (updF a (i, t) (closeA l[i] (envT E t) (toldA l a (kidA l[i] t)) (toldA l a (kidB l[i] t)))) ∧ Rpr.Chg (Own2 g h) w w') := by
  have hta := kidA_t l[i] ht
  have htb := kidB_t l[i] ht
  have HK := Lib.hid (fun w' (hk : Kept w w') => kids_any (H.keep hk) (t := t) hi)
  have HA := Lib.hid (fun w' (hk : Kept w w') => told_any (H.keep hk) _ hta)
  have HB := Lib.hid (fun w' (hk : Kept w w') => told_any (H.keep hk) _ htb)
  have HR := Lib.hid (fun w' (hk : Kept w w') => H.keep hk)
  have hlo := Below.size H.kept
  have hn := H.list.1
  obtain ⟨mp, bp, bn, bc, op, oa, on, oc, hE, hEc⟩ := H.envCells ht
  obtain ⟨b, cap, hlv, hbw, -⟩ := (H.list.kept H.kept).cells hi
  have HL := Lib.hid (show ∀ w', Kept w w' → w'.cell? ⟨b, i * 7, none⟩ = some (.int .i64 l[i].kind) ∧ w'.cell? ⟨b, i * 7 + 1, none⟩ = some (.int .i64 l[i].num) ∧ w'.cell? ⟨b, i * 7 + 2, none⟩ = some (.int .i64 l[i].ty) ∧ w'.cell? ⟨b, i * 7 + 3, none⟩ = some (.string ⟨l[i].name.toArray⟩) ∧ w'.cell? ⟨b, i * 7 + 4, none⟩ = some (.int .i64 l[i].a) ∧ w'.cell? ⟨b, i * 7 + 5, none⟩ = some (.int .i64 l[i].b) ∧ w'.cell? ⟨b, i * 7 + 6, none⟩ = some (.int .i64 l[i].place) from fun w' hk => by
    obtain ⟨b', cap', e', -, hc⟩ := ((H.list.kept H.kept).kept hk).cells hi
    rw [hlv] at e'
    injection e' with e1; injection e1 with e1; injection e1 with e1
    subst e1; exact hc)
  have hwb := Array.getElem?_eq_some_iff.1 H.box
  have HE := Lib.hid hE
  have HEc := Lib.hid hEc
  have hi1 : ((i : Int) < (l.length : Int)) := by omega
  subst hlv
  have hqw := hwb.1
  clear hta htb H hE hEc hwb
  generalize kidA l[i] t = ka at *
  generalize kidB l[i] t = kb at *
  generalize toldA l a ka = va at *
  generalize toldA l a kb = vb at *
  generalize l[i] = x at *
  unfold spotV ansVal at *
  go_enter Try.func88, Try.ntmps88
  go_upto_region 1 with fail
  have x0 := World.alloc_heap_new w (.cells #[.int .i64 i, .int .i64 t] 139)
  have kW := (Kept.refl w).alloc (.cells #[.int .i64 i, .int .i64 t] 139)
  generalize w.alloc (.cells #[.int .i64 i, .int .i64 t] 139) = W at *
  have s0 := bx_cell x0 0 _ rfl
  have s1 := bx_cell x0 1 _ rfl
  have X := Lib.hid x0
  have KW := Lib.hid kW
  clear x0 kW
  go_upto_region 2 with (go_at_call 95; refine (HK.out _ (by exact KW.out)).mono ?_; rintro e w1 ⟨rfl, k1⟩; have K1 := Lib.hid k1; clear k1)
  obtain ⟨y0, y1, kY⟩ := two w1 (.cells #[.int .i64 ka.1, .int .i64 ka.2] 139) (.cells #[.int .i64 kb.1, .int .i64 kb.2] 139)
  have K2 := Lib.hid (KW.out.trans (K1.out.trans kY))
  have Y := Lib.hid (And.intro (kh X.out (K1.out.trans kY)) (And.intro y0 y1))
  have hc : w.heap.size < w1.heap.size := Nat.lt_of_lt_of_le (Array.getElem?_eq_some_iff.1 X.out).1 (Below.size K1.out)
  clear y0 y1 kY X KW K1 s0 s1 HK
  generalize ((w1.alloc (.cells #[.int .i64 ka.1, .int .i64 ka.2] 139)).alloc (.cells #[.int .i64 kb.1, .int .i64 kb.2] 139)) = W1 at *
  generalize w1.heap.size = c at *
  have hS : ∀ w', Kept W1 w' → w'.cell? ⟨c, 0, none⟩ = some (.int .i64 ka.1) ∧ w'.cell? ⟨c, 1, none⟩ = some (.int .i64 ka.2) ∧ w'.cell? ⟨c + 1, 0, none⟩ = some (.int .i64 kb.1) ∧ w'.cell? ⟨c + 1, 1, none⟩ = some (.int .i64 kb.2) := fun w' hk =>
    ⟨bx_cell (kh Y.out.2.1 hk) 0 _ rfl, bx_cell (kh Y.out.2.1 hk) 1 _ rfl, bx_cell (kh Y.out.2.2 hk) 0 _ rfl, bx_cell (kh Y.out.2.2 hk) 1 _ rfl⟩
  have HS := Lib.hid hS
  clear hS
  have hcW : c + 1 < W1.heap.size := (Array.getElem?_eq_some_iff.1 Y.out.2.2).1
  go_cut [6, 7] from 11 (fun x y wx => ∃ bl br, x = .pointer (some ⟨bl, 0, none⟩) ∧ y = .pointer (some ⟨br, 0, none⟩) ∧ Hid (Kept W1 wx ∧ wx.heap[bl]? = some (.cells #[.int .i64 va.v, .int .i64 va.t, .int .i64 va.ub, .int .i64 va.at_] 124 (0, 0)) ∧ wx.heap[br]? = some (.cells #[.int .i64 vb.v, .int .i64 vb.t, .int .i64 vb.ub, .int .i64 vb.at_] 124 (0, 0))))
  case first =>
    refine Ord.named_act fun A0 hA0 => ?_
    obtain ⟨F, hF⟩ : ∃ F : Value → Value → Value → Value → Value → Value → Value → Value → Act, F = fun v0 v1 v2 v3 v4 v5 v6 v7 => (((((((A0.put (some 17) v0).put (some 18) v1).put (some 19) v2).put (some 20) v3).put (some 21) v4).put (some 22) v5).put (some 6) v6).put (some 7) v7 := ⟨_, rfl⟩
    rw [hA0] at hF
    simp only [go_sem, List.setIfInBounds_toArray, List.set_cons_succ, List.set_cons_zero] at hF
    refine Ord.wp_region_inv (fun f a wx => ∃ v0 v1 v2 v3 v4 v5 v6 v7 : Value, a = F v0 v1 v2 v3 v4 v5 v6 v7 ∧ Hid (Kept W1 wx) ∧
      (f 0 = true → v0 = .pointer (some ⟨q, 0, none⟩)) ∧ (f 1 = true → v1 = .agg #[.int .i64 ka.1, .int .i64 ka.2]) ∧ (f 2 = true → v2 = .agg #[.int .i64 va.v, .int .i64 va.t, .int .i64 va.ub, .int .i64 va.at_]) ∧
      (f 3 = true → v3 = .pointer (some ⟨q, 0, none⟩)) ∧ (f 4 = true → v4 = .agg #[.int .i64 kb.1, .int .i64 kb.2]) ∧ (f 5 = true → v5 = .agg #[.int .i64 vb.v, .int .i64 vb.t, .int .i64 vb.ub, .int .i64 vb.at_]) ∧
      Hid (Ord.PairAt W1.heap.size 124 #[.int .i64 0, .int .i64 0, .int .i64 0, .int .i64 0] #[.int .i64 va.v, .int .i64 va.t, .int .i64 va.ub, .int .i64 va.at_] #[.int .i64 vb.v, .int .i64 vb.t, .int .i64 vb.ub, .int .i64 vb.at_] (f 6) (f 7) (f 8) (f 9) v6 v7 wx)) (by kernel_rfl) (by kernel_rfl) ?_ ?_ ?_
    · subst hF
      exact ⟨undef, undef, undef, undef, undef, undef, undef, undef, hA0, Lib.hid (Kept.refl W1).drew, fun h => Bool.noConfusion (h : false = true), fun h => Bool.noConfusion (h : false = true), fun h => Bool.noConfusion (h : false = true), fun h => Bool.noConfusion (h : false = true), fun h => Bool.noConfusion (h : false = true), fun h => Bool.noConfusion (h : false = true), Lib.hid ⟨fun h => Bool.noConfusion (h : false = true), fun h => Bool.noConfusion (h : false = true), fun h => Bool.noConfusion (h : false = true), fun h => Bool.noConfusion (h : false = true), fun h => Bool.noConfusion (h : false = true)⟩⟩
    · refine Ord.InvL.cons ?_ (Ord.InvL.cons ?_ (Ord.InvL.cons ?_ (Ord.InvL.cons ?_ (Ord.InvL.cons ?_ (Ord.InvL.cons ?_ (Ord.InvL.cons ?_ (Ord.InvL.cons ?_ (Ord.InvL.cons ?_ (Ord.InvL.cons ?_ Ord.InvL.nil)))))))))
      · rintro f a wx ⟨v0, v1, v2, v3, v4, v5, v6, v7, rfl, HK2, f0, f1, f2, f3, f4, f5, HP⟩ hf hd K hK'; subst hF; simp only [Ord.deps] at hd
        go_simp
        exact hK'.out _ _ ⟨_, v1, v2, v3, v4, v5, v6, v7, rfl, HK2, fun _ => rfl, f1, f2, f3, f4, f5, HP⟩
      · rintro f a wx ⟨v0, v1, v2, v3, v4, v5, v6, v7, rfl, HK2, f0, f1, f2, f3, f4, f5, HP⟩ hf hd K hK'; subst hF; simp only [Ord.deps] at hd
        obtain ⟨s0, s1, s2, s3⟩ := HS.out _ HK2.out
        go_simp
        exact hK'.out _ _ ⟨v0, _, v2, v3, v4, v5, v6, v7, rfl, HK2, f0, fun _ => rfl, f2, f3, f4, f5, HP⟩
      · rintro f a wx ⟨v0, v1, v2, v3, v4, v5, v6, v7, rfl, HK2, f0, f1, f2, f3, f4, f5, HP⟩ hf hd K hK'; subst hF; simp only [Ord.deps, Region.binds, forall_const] at hd
        obtain rfl := f0 hd.1
        obtain rfl := f1 hd.2.1
        clear hd
        go_simp
        go_wp2_with (go_at_call 89; refine (HA.out _ (K2.out.trans HK2.out)).mono ?_; rintro e w3 ⟨rfl, k3⟩; have K3 := Lib.hid k3; clear k3)
        exact hK'.out _ _ ⟨_, _, _, v3, v4, v5, v6, v7, rfl, Lib.hid (HK2.out.trans K3.out), fun _ => rfl, fun _ => rfl, fun _ => rfl, f3, f4, f5, Lib.hid (HP.out.keep K3.out)⟩
      · rintro f a wx ⟨v0, v1, v2, v3, v4, v5, v6, v7, rfl, HK2, f0, f1, f2, f3, f4, f5, HP⟩ hf hd K hK'; subst hF; simp only [Ord.deps] at hd
        go_simp
        exact hK'.out _ _ ⟨v0, v1, v2, _, v4, v5, v6, v7, rfl, HK2, f0, f1, f2, fun _ => rfl, f4, f5, HP⟩
      · rintro f a wx ⟨v0, v1, v2, v3, v4, v5, v6, v7, rfl, HK2, f0, f1, f2, f3, f4, f5, HP⟩ hf hd K hK'; subst hF; simp only [Ord.deps] at hd
        obtain ⟨s0, s1, s2, s3⟩ := HS.out _ HK2.out
        go_simp
        exact hK'.out _ _ ⟨v0, v1, v2, v3, _, v5, v6, v7, rfl, HK2, f0, f1, f2, f3, fun _ => rfl, f5, HP⟩
      · rintro f a wx ⟨v0, v1, v2, v3, v4, v5, v6, v7, rfl, HK2, f0, f1, f2, f3, f4, f5, HP⟩ hf hd K hK'; subst hF; simp only [Ord.deps, Region.binds, forall_const] at hd
        obtain rfl := f3 hd.1
        obtain rfl := f4 hd.2.1
        clear hd
        go_simp
        go_wp2_with (go_at_call 89; refine (HB.out _ (K2.out.trans HK2.out)).mono ?_; rintro e w3 ⟨rfl, k3⟩; have K3 := Lib.hid k3; clear k3)
        exact hK'.out _ _ ⟨v0, v1, v2, _, _, _, v6, v7, rfl, Lib.hid (HK2.out.trans K3.out), f0, f1, f2, fun _ => rfl, fun _ => rfl, fun _ => rfl, Lib.hid (HP.out.keep K3.out)⟩
      · rintro f a wx ⟨v0, v1, v2, v3, v4, v5, v6, v7, rfl, HK2, f0, f1, f2, f3, f4, f5, HP⟩ hf hd K hK'; subst hF; simp only [Ord.deps] at hd
        have h8 : f 8 = false := by
          cases h : f 8 with
          | false => rfl
          | true => exact absurd (HP.out.fill6 h) (by rw [hf]; simp)
        go_simp
        refine hK'.out _ _ ⟨v0, v1, v2, v3, v4, v5, _, v7, rfl, Lib.hid (HK2.out.alloc _), f0, f1, f2, f3, f4, f5, Lib.hid ?_⟩
        have HQ := HP.out
        rw [hf, h8] at HQ
        show Ord.PairAt _ _ _ _ _ true (f 7) (f 8) (f 9) _ _ _
        rw [h8]
        exact HQ.make6 (Below.size HK2.out)
      · rintro f a wx ⟨v0, v1, v2, v3, v4, v5, v6, v7, rfl, HK2, f0, f1, f2, f3, f4, f5, HP⟩ hf hd K hK'; subst hF; simp only [Ord.deps] at hd
        have h9 : f 9 = false := by
          cases h : f 9 with
          | false => rfl
          | true => exact absurd (HP.out.fill7 h) (by rw [hf]; simp)
        go_simp
        refine hK'.out _ _ ⟨v0, v1, v2, v3, v4, v5, v6, _, rfl, Lib.hid (HK2.out.alloc _), f0, f1, f2, f3, f4, f5, Lib.hid ?_⟩
        have HQ := HP.out
        rw [hf, h9] at HQ
        show Ord.PairAt _ _ _ _ _ (f 6) true (f 8) (f 9) _ _ _
        rw [h9]
        exact HQ.make7 (Below.size HK2.out)
      · rintro f a wx ⟨v0, v1, v2, v3, v4, v5, v6, v7, rfl, HK2, f0, f1, f2, f3, f4, f5, HP⟩ hf hd K hK'; subst hF; simp only [Ord.deps, Region.binds, forall_const] at hd
        obtain ⟨h6, h2, -, -, -, -, -, -, -, -, h7, -⟩ := hd
        obtain rfl := f2 h2
        clear h2
        have HQ := HP.out
        rw [hf, h6, h7] at HQ
        obtain ⟨bl, rfl, hb, hx⟩ := HQ.one rfl
        simp only [Bool.false_eq_true, if_false] at hx
        have HX := Lib.hid HQ
        have xc0 := bx_cell hx 0 _ rfl
        have xc1 := bx_cell hx 1 _ rfl
        have xc2 := bx_cell hx 2 _ rfl
        have xc3 := bx_cell hx 3 _ rfl
        have xcf := bx_froz hx
        have xcl := (Array.getElem?_eq_some_iff.1 hx).1
        clear HQ hx
        go_simp
        refine hK'.out _ _ ⟨v0, v1, _, v3, v4, v5, _, v7, rfl, Lib.hid (Ord.below4 HK2.out hb _ _ _ _), f0, f1, fun _ => rfl, f3, f4, f5, Lib.hid ?_⟩
        show Ord.PairAt _ _ _ _ _ (f 6) (f 7) true (f 9) _ _ _
        rw [h6, h7]
        exact HX.out.fill8
      · rintro f a wx ⟨v0, v1, v2, v3, v4, v5, v6, v7, rfl, HK2, f0, f1, f2, f3, f4, f5, HP⟩ hf hd K hK'; subst hF; simp only [Ord.deps, Region.binds, forall_const] at hd
        obtain ⟨h7, h5, -, -, -, -, -, -, -, h6, -⟩ := hd
        obtain rfl := f5 h5
        clear h5
        have HQ := HP.out
        rw [hf, h6, h7] at HQ
        obtain ⟨bl, rfl, hb, hx⟩ := HQ.two rfl
        simp only [Bool.false_eq_true, if_false] at hx
        have HX := Lib.hid HQ
        have xc0 := bx_cell hx 0 _ rfl
        have xc1 := bx_cell hx 1 _ rfl
        have xc2 := bx_cell hx 2 _ rfl
        have xc3 := bx_cell hx 3 _ rfl
        have xcf := bx_froz hx
        have xcl := (Array.getElem?_eq_some_iff.1 hx).1
        clear HQ hx
        go_simp
        refine hK'.out _ _ ⟨v0, v1, v2, v3, v4, _, v6, _, rfl, Lib.hid (Ord.below4 HK2.out hb _ _ _ _), f0, f1, f2, f3, f4, fun _ => rfl, Lib.hid ?_⟩
        show Ord.PairAt _ _ _ _ _ (f 6) (f 7) (f 8) true _ _ _
        rw [h6, h7]
        exact HX.out.fill9
    · rintro f a wx hall ⟨v0, v1, v2, v3, v4, v5, v6, v7, rfl, HK2, f0, f1, f2, f3, f4, f5, HP⟩
      subst hF
      have HQ := HP.out
      rw [hall 6 (by decide), hall 7 (by decide), hall 8 (by decide), hall 9 (by decide)] at HQ
      obtain ⟨bl, rfl, hb, hx⟩ := HQ.one rfl
      obtain ⟨br, rfl, hb2, hx2⟩ := HQ.two rfl
      simp only [if_true] at hx hx2
      have HX := Lib.hid (And.intro HK2.out (And.intro hx hx2))
      clear HQ hx hx2 HP hall f0 f1 f2 f3 f4 f5 HK2
      go_wp2
      go_meet
      exact ⟨bl, br, rfl, rfl, HX⟩
  case rest =>
    obtain ⟨bl, br, rfl, rfl, HC⟩ := hcut
    generalize wc = w3 at *
    have K3 := Lib.hid (K2.out.trans HC.out.1)
    have HF : Hid (∀ w', Kept w3 w' → (w'.cell? ⟨q, 0, none⟩ = some (.slice (some ⟨b, 0, none⟩) l.length cap) ∧ w'.cell? ⟨w.heap.size, 0, none⟩ = some (.int .i64 i) ∧ w'.cell? ⟨w.heap.size, 1, none⟩ = some (.int .i64 t)) ∧
        (w'.cell? ⟨b, i * 7, none⟩ = some (.int .i64 x.kind) ∧ w'.cell? ⟨b, i * 7 + 1, none⟩ = some (.int .i64 x.num) ∧ w'.cell? ⟨b, i * 7 + 2, none⟩ = some (.int .i64 x.ty) ∧ w'.cell? ⟨b, i * 7 + 3, none⟩ = some (.string ⟨x.name.toArray⟩) ∧ w'.cell? ⟨b, i * 7 + 4, none⟩ = some (.int .i64 x.a) ∧ w'.cell? ⟨b, i * 7 + 5, none⟩ = some (.int .i64 x.b) ∧ w'.cell? ⟨b, i * 7 + 6, none⟩ = some (.int .i64 x.place)) ∧
        (w'.cell? ⟨q, 1 + t * 6, none⟩ = some (.pointer mp) ∧ w'.cell? ⟨q, 1 + t * 6 + 1, none⟩ = some (.slice bp bn bc) ∧ w'.cell? ⟨q, 1 + t * 6 + 2, none⟩ = some (.pointer op) ∧ w'.cell? ⟨q, 1 + t * 6 + 3, none⟩ = some (.slice oa on oc) ∧ w'.cell? ⟨q, 1 + t * 6 + 4, none⟩ = some (.int .i64 (envT E t).res) ∧ w'.cell? ⟨q, 1 + t * 6 + 5, none⟩ = some (.int .i64 (envT E t).t)) ∧
        (w'.cell? ⟨bl, 0, none⟩ = some (.int .i64 va.v) ∧ w'.cell? ⟨bl, 1, none⟩ = some (.int .i64 va.t) ∧ w'.cell? ⟨bl, 2, none⟩ = some (.int .i64 va.ub) ∧ w'.cell? ⟨bl, 3, none⟩ = some (.int .i64 va.at_)) ∧
        (w'.cell? ⟨br, 0, none⟩ = some (.int .i64 vb.v) ∧ w'.cell? ⟨br, 1, none⟩ = some (.int .i64 vb.t) ∧ w'.cell? ⟨br, 2, none⟩ = some (.int .i64 vb.ub) ∧ w'.cell? ⟨br, 3, none⟩ = some (.int .i64 vb.at_))) := Lib.hid fun w' hk => by
      have k1 := K3.out.trans hk
      have hs := kh Y.out.1 (HC.out.1.trans hk)
      have hl := kh HC.out.2.1 hk
      have hr := kh HC.out.2.2 hk
      exact ⟨⟨bx_cell (HR.out _ k1).box 0 _ rfl, bx_cell hs 0 _ rfl, bx_cell hs 1 _ rfl⟩, HL.out _ k1, HEc.out _ k1, ⟨bx_cell hl 0 _ rfl, bx_cell hl 1 _ rfl, bx_cell hl 2 _ rfl, bx_cell hl 3 _ rfl⟩, ⟨bx_cell hr 0 _ rfl, bx_cell hr 1 _ rfl, bx_cell hr 2 _ rfl, bx_cell hr 3 _ rfl⟩⟩
    have ht1 : (t : Int) < 2 := by omega
    go_upto_region 3 with fail
    go_cut [8] from 11 (fun x8 wx => ∃ bo, x8 = .pointer (some ⟨bo, 0, none⟩) ∧ Hid (Kept w3 wx ∧ w3.heap.size ≤ bo ∧ wx.heap[bo]? = some (.cells #[.int .i64 (nodeA x (envT E t) va vb).v, .int .i64 (nodeA x (envT E t) va vb).t, .int .i64 (nodeA x (envT E t) va vb).ub, .int .i64 (nodeA x (envT E t) va vb).at_] 124 (0, 0))))
    case first =>
      refine Ord.named_act fun A0 hA0 => ?_
      obtain ⟨F, hF⟩ : ∃ F : Value → Value → Value → Value → Value → Value → Value → Value → Value → Value → Value → Value → Value → Value → Value → Value → Value → Value → Value → Act, F = fun v0 v1 v2 v3 v4 v5 v6 v7 v8 v9 v10 v11 v12 v13 v14 v15 v16 v17 v18 => ((((((((((((((((((A0.put (some 23) v0).put (some 24) v1).put (some 25) v2).put (some 26) v3).put (some 27) v4).put (some 28) v5).put (some 29) v6).put (some 30) v7).put (some 31) v8).put (some 32) v9).put (some 33) v10).put (some 34) v11).put (some 35) v12).put (some 36) v13).put (some 37) v14).put (some 38) v15).put (some 39) v16).put (some 40) v17).put (some 8) v18 := ⟨_, rfl⟩
      rw [hA0] at hF
      simp only [go_sem, List.setIfInBounds_toArray, List.set_cons_succ, List.set_cons_zero] at hF
      refine Ord.wp_region_inv (fun f a wx => ∃ v0 v1 v2 v3 v4 v5 v6 v7 v8 v9 v10 v11 v12 v13 v14 v15 v16 v17 v18 : Value, a = F v0 v1 v2 v3 v4 v5 v6 v7 v8 v9 v10 v11 v12 v13 v14 v15 v16 v17 v18 ∧ Hid (Kept w3 wx) ∧ (f 0 = true → v0 = .pointer (some ⟨q, 0, none⟩)) ∧ (f 1 = true → v1 = .pointer (some ⟨q, 0, none⟩)) ∧ (f 2 = true → v2 = .pointer (some ⟨q, 0, none⟩)) ∧ (f 3 = true → v3 = .slice (some ⟨b, 0, none⟩) l.length cap) ∧ (f 4 = true → v4 = .pointer (some ⟨w.heap.size, 0, none⟩)) ∧ (f 5 = true → v5 = .int .i64 i) ∧ (f 6 = true → v6 = .pointer (some ⟨b, i * 7, none⟩)) ∧ (f 7 = true → v7 = .agg #[.int .i64 x.kind, .int .i64 x.num, .int .i64 x.ty, .string ⟨x.name.toArray⟩, .int .i64 x.a, .int .i64 x.b, .int .i64 x.place]) ∧ (f 8 = true → v8 = .pointer (some ⟨q, 0, none⟩)) ∧ (f 9 = true → v9 = .pointer (some ⟨w.heap.size, 1, none⟩)) ∧ (f 10 = true → v10 = .int .i64 t) ∧ (f 11 = true → v11 = .pointer (some ⟨q, 0, none⟩)) ∧ (f 12 = true → v12 = .pointer (some ⟨q, 1, none⟩)) ∧ (f 13 = true → v13 = .pointer (some ⟨q, 1 + t * 6, none⟩)) ∧ (f 14 = true → v14 = .agg #[.pointer mp, .slice bp bn bc, .pointer op, .slice oa on oc, .int .i64 (envT E t).res, .int .i64 (envT E t).t]) ∧ (f 15 = true → v15 = .agg #[.int .i64 va.v, .int .i64 va.t, .int .i64 va.ub, .int .i64 va.at_]) ∧ (f 16 = true → v16 = .agg #[.int .i64 vb.v, .int .i64 vb.t, .int .i64 vb.ub, .int .i64 vb.at_]) ∧ (f 17 = true → v17 = .agg #[.int .i64 (nodeA x (envT E t) va vb).v, .int .i64 (nodeA x (envT E t) va vb).t, .int .i64 (nodeA x (envT E t) va vb).ub, .int .i64 (nodeA x (envT E t) va vb).at_]) ∧ Hid (Ord.BoxAt w3.heap.size 124 #[.int .i64 0, .int .i64 0, .int .i64 0, .int .i64 0] #[.int .i64 (nodeA x (envT E t) va vb).v, .int .i64 (nodeA x (envT E t) va vb).t, .int .i64 (nodeA x (envT E t) va vb).ub, .int .i64 (nodeA x (envT E t) va vb).at_] (f 18) (f 19) v18 wx)) (by kernel_rfl) (by kernel_rfl) ?_ ?_ ?_
      · subst hF
        exact ⟨u23, u24, u25, u26, u27, u28, u29, u30, u31, u32, u33, u34, u35, u36, u37, u38, u39, u40, undef, hA0, Lib.hid (Kept.refl w3).drew, fun h => Bool.noConfusion (h : false = true), fun h => Bool.noConfusion (h : false = true), fun h => Bool.noConfusion (h : false = true), fun h => Bool.noConfusion (h : false = true), fun h => Bool.noConfusion (h : false = true), fun h => Bool.noConfusion (h : false = true), fun h => Bool.noConfusion (h : false = true), fun h => Bool.noConfusion (h : false = true), fun h => Bool.noConfusion (h : false = true), fun h => Bool.noConfusion (h : false = true), fun h => Bool.noConfusion (h : false = true), fun h => Bool.noConfusion (h : false = true), fun h => Bool.noConfusion (h : false = true), fun h => Bool.noConfusion (h : false = true), fun h => Bool.noConfusion (h : false = true), fun h => Bool.noConfusion (h : false = true), fun h => Bool.noConfusion (h : false = true), fun h => Bool.noConfusion (h : false = true), Lib.hid ⟨fun h => Bool.noConfusion (h : false = true), fun h => Bool.noConfusion (h : false = true)⟩⟩
      · refine Ord.InvL.cons ?_ (Ord.InvL.cons ?_ (Ord.InvL.cons ?_ (Ord.InvL.cons ?_ (Ord.InvL.cons ?_ (Ord.InvL.cons ?_ (Ord.InvL.cons ?_ (Ord.InvL.cons ?_ (Ord.InvL.cons ?_ (Ord.InvL.cons ?_ (Ord.InvL.cons ?_ (Ord.InvL.cons ?_ (Ord.InvL.cons ?_ (Ord.InvL.cons ?_ (Ord.InvL.cons ?_ (Ord.InvL.cons ?_ (Ord.InvL.cons ?_ (Ord.InvL.cons ?_ (Ord.InvL.cons ?_ (Ord.InvL.cons ?_ (Ord.InvL.nil))))))))))))))))))))
        · rintro f a wx ⟨v0, v1, v2, v3, v4, v5, v6, v7, v8, v9, v10, v11, v12, v13, v14, v15, v16, v17, v18, rfl, HK2, f0, f1, f2, f3, f4, f5, f6, f7, f8, f9, f10, f11, f12, f13, f14, f15, f16, f17, HP⟩ hf hd K hK'; subst hF
          clear hd
          go_simp
          refine hK'.out _ _ ⟨_, v1, v2, v3, v4, v5, v6, v7, v8, v9, v10, v11, v12, v13, v14, v15, v16, v17, v18, rfl, HK2, fun _ => rfl, f1, f2, f3, f4, f5, f6, f7, f8, f9, f10, f11, f12, f13, f14, f15, f16, f17, HP⟩
        · rintro f a wx ⟨v0, v1, v2, v3, v4, v5, v6, v7, v8, v9, v10, v11, v12, v13, v14, v15, v16, v17, v18, rfl, HK2, f0, f1, f2, f3, f4, f5, f6, f7, f8, f9, f10, f11, f12, f13, f14, f15, f16, f17, HP⟩ hf hd K hK'; subst hF; simp only [Ord.deps, Region.binds, forall_const] at hd
          obtain rfl := f0 (by first | exact hd.1 | exact hd.2.1 | exact hd.2.2.1 | exact hd.2.2.2.1 | exact hd.2.2.2.2.1 | exact hd.2.2.2.2.2.1 | exact hd.2.2.2.2.2.2.1 | exact hd.2.2.2.2.2.2.2.1 | exact hd.2.2.2.2.2.2.2.2.1 | exact hd.2.2.2.2.2.2.2.2.2.1 | exact hd.2.2.2.2.2.2.2.2.2.2.1 | exact hd.2.2.2.2.2.2.2.2.2.2.2.1 | exact hd.2.2.2.2.2.2.2.2.2.2.2.2.1 | exact hd.2.2.2.2.2.2.2.2.2.2.2.2.2.1 | exact hd.2.2.2.2.2.2.2.2.2.2.2.2.2.2.1 | exact hd.2.2.2.2.2.2.2.2.2.2.2.2.2.2.2.1)
          clear hd
          go_simp
          refine hK'.out _ _ ⟨_, _, v2, v3, v4, v5, v6, v7, v8, v9, v10, v11, v12, v13, v14, v15, v16, v17, v18, rfl, HK2, fun _ => rfl, fun _ => rfl, f2, f3, f4, f5, f6, f7, f8, f9, f10, f11, f12, f13, f14, f15, f16, f17, HP⟩
        · rintro f a wx ⟨v0, v1, v2, v3, v4, v5, v6, v7, v8, v9, v10, v11, v12, v13, v14, v15, v16, v17, v18, rfl, HK2, f0, f1, f2, f3, f4, f5, f6, f7, f8, f9, f10, f11, f12, f13, f14, f15, f16, f17, HP⟩ hf hd K hK'; subst hF; simp only [Ord.deps, Region.binds, forall_const] at hd
          obtain rfl := f1 (by first | exact hd.1 | exact hd.2.1 | exact hd.2.2.1 | exact hd.2.2.2.1 | exact hd.2.2.2.2.1 | exact hd.2.2.2.2.2.1 | exact hd.2.2.2.2.2.2.1 | exact hd.2.2.2.2.2.2.2.1 | exact hd.2.2.2.2.2.2.2.2.1 | exact hd.2.2.2.2.2.2.2.2.2.1 | exact hd.2.2.2.2.2.2.2.2.2.2.1 | exact hd.2.2.2.2.2.2.2.2.2.2.2.1 | exact hd.2.2.2.2.2.2.2.2.2.2.2.2.1 | exact hd.2.2.2.2.2.2.2.2.2.2.2.2.2.1 | exact hd.2.2.2.2.2.2.2.2.2.2.2.2.2.2.1 | exact hd.2.2.2.2.2.2.2.2.2.2.2.2.2.2.2.1)
          clear hd
          go_simp
          refine hK'.out _ _ ⟨v0, _, _, v3, v4, v5, v6, v7, v8, v9, v10, v11, v12, v13, v14, v15, v16, v17, v18, rfl, HK2, f0, fun _ => rfl, fun _ => rfl, f3, f4, f5, f6, f7, f8, f9, f10, f11, f12, f13, f14, f15, f16, f17, HP⟩
        · rintro f a wx ⟨v0, v1, v2, v3, v4, v5, v6, v7, v8, v9, v10, v11, v12, v13, v14, v15, v16, v17, v18, rfl, HK2, f0, f1, f2, f3, f4, f5, f6, f7, f8, f9, f10, f11, f12, f13, f14, f15, f16, f17, HP⟩ hf hd K hK'; subst hF; simp only [Ord.deps, Region.binds, forall_const] at hd
          obtain rfl := f2 (by first | exact hd.1 | exact hd.2.1 | exact hd.2.2.1 | exact hd.2.2.2.1 | exact hd.2.2.2.2.1 | exact hd.2.2.2.2.2.1 | exact hd.2.2.2.2.2.2.1 | exact hd.2.2.2.2.2.2.2.1 | exact hd.2.2.2.2.2.2.2.2.1 | exact hd.2.2.2.2.2.2.2.2.2.1 | exact hd.2.2.2.2.2.2.2.2.2.2.1 | exact hd.2.2.2.2.2.2.2.2.2.2.2.1 | exact hd.2.2.2.2.2.2.2.2.2.2.2.2.1 | exact hd.2.2.2.2.2.2.2.2.2.2.2.2.2.1 | exact hd.2.2.2.2.2.2.2.2.2.2.2.2.2.2.1 | exact hd.2.2.2.2.2.2.2.2.2.2.2.2.2.2.2.1)
          obtain ⟨⟨s1, s2, s3⟩, ⟨l0, l1, l2, l3, l4, l5, l6⟩, ⟨n0, n1, n2, n3, n4, n5⟩, ⟨a0, a1, a2, a3⟩, ⟨r0, r1, r2, r3⟩⟩ := HF.out _ HK2.out
          clear hd
          go_simp
          refine hK'.out _ _ ⟨v0, v1, _, _, v4, v5, v6, v7, v8, v9, v10, v11, v12, v13, v14, v15, v16, v17, v18, rfl, HK2, f0, f1, fun _ => rfl, fun _ => rfl, f4, f5, f6, f7, f8, f9, f10, f11, f12, f13, f14, f15, f16, f17, HP⟩
        · rintro f a wx ⟨v0, v1, v2, v3, v4, v5, v6, v7, v8, v9, v10, v11, v12, v13, v14, v15, v16, v17, v18, rfl, HK2, f0, f1, f2, f3, f4, f5, f6, f7, f8, f9, f10, f11, f12, f13, f14, f15, f16, f17, HP⟩ hf hd K hK'; subst hF
          clear hd
          go_simp
          refine hK'.out _ _ ⟨v0, v1, v2, v3, _, v5, v6, v7, v8, v9, v10, v11, v12, v13, v14, v15, v16, v17, v18, rfl, HK2, f0, f1, f2, f3, fun _ => rfl, f5, f6, f7, f8, f9, f10, f11, f12, f13, f14, f15, f16, f17, HP⟩
        · rintro f a wx ⟨v0, v1, v2, v3, v4, v5, v6, v7, v8, v9, v10, v11, v12, v13, v14, v15, v16, v17, v18, rfl, HK2, f0, f1, f2, f3, f4, f5, f6, f7, f8, f9, f10, f11, f12, f13, f14, f15, f16, f17, HP⟩ hf hd K hK'; subst hF; simp only [Ord.deps, Region.binds, forall_const] at hd
          obtain rfl := f4 (by first | exact hd.1 | exact hd.2.1 | exact hd.2.2.1 | exact hd.2.2.2.1 | exact hd.2.2.2.2.1 | exact hd.2.2.2.2.2.1 | exact hd.2.2.2.2.2.2.1 | exact hd.2.2.2.2.2.2.2.1 | exact hd.2.2.2.2.2.2.2.2.1 | exact hd.2.2.2.2.2.2.2.2.2.1 | exact hd.2.2.2.2.2.2.2.2.2.2.1 | exact hd.2.2.2.2.2.2.2.2.2.2.2.1 | exact hd.2.2.2.2.2.2.2.2.2.2.2.2.1 | exact hd.2.2.2.2.2.2.2.2.2.2.2.2.2.1 | exact hd.2.2.2.2.2.2.2.2.2.2.2.2.2.2.1 | exact hd.2.2.2.2.2.2.2.2.2.2.2.2.2.2.2.1)
          obtain ⟨⟨s1, s2, s3⟩, ⟨l0, l1, l2, l3, l4, l5, l6⟩, ⟨n0, n1, n2, n3, n4, n5⟩, ⟨a0, a1, a2, a3⟩, ⟨r0, r1, r2, r3⟩⟩ := HF.out _ HK2.out
          clear hd
          go_simp
          refine hK'.out _ _ ⟨v0, v1, v2, v3, _, _, v6, v7, v8, v9, v10, v11, v12, v13, v14, v15, v16, v17, v18, rfl, HK2, f0, f1, f2, f3, fun _ => rfl, fun _ => rfl, f6, f7, f8, f9, f10, f11, f12, f13, f14, f15, f16, f17, HP⟩
        · rintro f a wx ⟨v0, v1, v2, v3, v4, v5, v6, v7, v8, v9, v10, v11, v12, v13, v14, v15, v16, v17, v18, rfl, HK2, f0, f1, f2, f3, f4, f5, f6, f7, f8, f9, f10, f11, f12, f13, f14, f15, f16, f17, HP⟩ hf hd K hK'; subst hF; simp only [Ord.deps, Region.binds, forall_const] at hd
          obtain rfl := f3 (by first | exact hd.1 | exact hd.2.1 | exact hd.2.2.1 | exact hd.2.2.2.1 | exact hd.2.2.2.2.1 | exact hd.2.2.2.2.2.1 | exact hd.2.2.2.2.2.2.1 | exact hd.2.2.2.2.2.2.2.1 | exact hd.2.2.2.2.2.2.2.2.1 | exact hd.2.2.2.2.2.2.2.2.2.1 | exact hd.2.2.2.2.2.2.2.2.2.2.1 | exact hd.2.2.2.2.2.2.2.2.2.2.2.1 | exact hd.2.2.2.2.2.2.2.2.2.2.2.2.1 | exact hd.2.2.2.2.2.2.2.2.2.2.2.2.2.1 | exact hd.2.2.2.2.2.2.2.2.2.2.2.2.2.2.1 | exact hd.2.2.2.2.2.2.2.2.2.2.2.2.2.2.2.1)
          obtain rfl := f5 (by first | exact hd.1 | exact hd.2.1 | exact hd.2.2.1 | exact hd.2.2.2.1 | exact hd.2.2.2.2.1 | exact hd.2.2.2.2.2.1 | exact hd.2.2.2.2.2.2.1 | exact hd.2.2.2.2.2.2.2.1 | exact hd.2.2.2.2.2.2.2.2.1 | exact hd.2.2.2.2.2.2.2.2.2.1 | exact hd.2.2.2.2.2.2.2.2.2.2.1 | exact hd.2.2.2.2.2.2.2.2.2.2.2.1 | exact hd.2.2.2.2.2.2.2.2.2.2.2.2.1 | exact hd.2.2.2.2.2.2.2.2.2.2.2.2.2.1 | exact hd.2.2.2.2.2.2.2.2.2.2.2.2.2.2.1 | exact hd.2.2.2.2.2.2.2.2.2.2.2.2.2.2.2.1)
          clear hd
          go_simp
          refine hK'.out _ _ ⟨v0, v1, v2, _, v4, _, _, v7, v8, v9, v10, v11, v12, v13, v14, v15, v16, v17, v18, rfl, HK2, f0, f1, f2, fun _ => rfl, f4, fun _ => rfl, fun _ => rfl, f7, f8, f9, f10, f11, f12, f13, f14, f15, f16, f17, HP⟩
        · rintro f a wx ⟨v0, v1, v2, v3, v4, v5, v6, v7, v8, v9, v10, v11, v12, v13, v14, v15, v16, v17, v18, rfl, HK2, f0, f1, f2, f3, f4, f5, f6, f7, f8, f9, f10, f11, f12, f13, f14, f15, f16, f17, HP⟩ hf hd K hK'; subst hF; simp only [Ord.deps, Region.binds, forall_const] at hd
          obtain rfl := f6 (by first | exact hd.1 | exact hd.2.1 | exact hd.2.2.1 | exact hd.2.2.2.1 | exact hd.2.2.2.2.1 | exact hd.2.2.2.2.2.1 | exact hd.2.2.2.2.2.2.1 | exact hd.2.2.2.2.2.2.2.1 | exact hd.2.2.2.2.2.2.2.2.1 | exact hd.2.2.2.2.2.2.2.2.2.1 | exact hd.2.2.2.2.2.2.2.2.2.2.1 | exact hd.2.2.2.2.2.2.2.2.2.2.2.1 | exact hd.2.2.2.2.2.2.2.2.2.2.2.2.1 | exact hd.2.2.2.2.2.2.2.2.2.2.2.2.2.1 | exact hd.2.2.2.2.2.2.2.2.2.2.2.2.2.2.1 | exact hd.2.2.2.2.2.2.2.2.2.2.2.2.2.2.2.1)
          obtain ⟨⟨s1, s2, s3⟩, ⟨l0, l1, l2, l3, l4, l5, l6⟩, ⟨n0, n1, n2, n3, n4, n5⟩, ⟨a0, a1, a2, a3⟩, ⟨r0, r1, r2, r3⟩⟩ := HF.out _ HK2.out
          clear hd
          go_simp
          refine hK'.out _ _ ⟨v0, v1, v2, v3, v4, v5, _, _, v8, v9, v10, v11, v12, v13, v14, v15, v16, v17, v18, rfl, HK2, f0, f1, f2, f3, f4, f5, fun _ => rfl, fun _ => rfl, f8, f9, f10, f11, f12, f13, f14, f15, f16, f17, HP⟩
        · rintro f a wx ⟨v0, v1, v2, v3, v4, v5, v6, v7, v8, v9, v10, v11, v12, v13, v14, v15, v16, v17, v18, rfl, HK2, f0, f1, f2, f3, f4, f5, f6, f7, f8, f9, f10, f11, f12, f13, f14, f15, f16, f17, HP⟩ hf hd K hK'; subst hF
          clear hd
          go_simp
          refine hK'.out _ _ ⟨v0, v1, v2, v3, v4, v5, v6, v7, _, v9, v10, v11, v12, v13, v14, v15, v16, v17, v18, rfl, HK2, f0, f1, f2, f3, f4, f5, f6, f7, fun _ => rfl, f9, f10, f11, f12, f13, f14, f15, f16, f17, HP⟩
        · rintro f a wx ⟨v0, v1, v2, v3, v4, v5, v6, v7, v8, v9, v10, v11, v12, v13, v14, v15, v16, v17, v18, rfl, HK2, f0, f1, f2, f3, f4, f5, f6, f7, f8, f9, f10, f11, f12, f13, f14, f15, f16, f17, HP⟩ hf hd K hK'; subst hF
          clear hd
          go_simp
          refine hK'.out _ _ ⟨v0, v1, v2, v3, v4, v5, v6, v7, v8, _, v10, v11, v12, v13, v14, v15, v16, v17, v18, rfl, HK2, f0, f1, f2, f3, f4, f5, f6, f7, f8, fun _ => rfl, f10, f11, f12, f13, f14, f15, f16, f17, HP⟩
        · rintro f a wx ⟨v0, v1, v2, v3, v4, v5, v6, v7, v8, v9, v10, v11, v12, v13, v14, v15, v16, v17, v18, rfl, HK2, f0, f1, f2, f3, f4, f5, f6, f7, f8, f9, f10, f11, f12, f13, f14, f15, f16, f17, HP⟩ hf hd K hK'; subst hF; simp only [Ord.deps, Region.binds, forall_const] at hd
          obtain rfl := f9 (by first | exact hd.1 | exact hd.2.1 | exact hd.2.2.1 | exact hd.2.2.2.1 | exact hd.2.2.2.2.1 | exact hd.2.2.2.2.2.1 | exact hd.2.2.2.2.2.2.1 | exact hd.2.2.2.2.2.2.2.1 | exact hd.2.2.2.2.2.2.2.2.1 | exact hd.2.2.2.2.2.2.2.2.2.1 | exact hd.2.2.2.2.2.2.2.2.2.2.1 | exact hd.2.2.2.2.2.2.2.2.2.2.2.1 | exact hd.2.2.2.2.2.2.2.2.2.2.2.2.1 | exact hd.2.2.2.2.2.2.2.2.2.2.2.2.2.1 | exact hd.2.2.2.2.2.2.2.2.2.2.2.2.2.2.1 | exact hd.2.2.2.2.2.2.2.2.2.2.2.2.2.2.2.1)
          obtain ⟨⟨s1, s2, s3⟩, ⟨l0, l1, l2, l3, l4, l5, l6⟩, ⟨n0, n1, n2, n3, n4, n5⟩, ⟨a0, a1, a2, a3⟩, ⟨r0, r1, r2, r3⟩⟩ := HF.out _ HK2.out
          clear hd
          go_simp
          refine hK'.out _ _ ⟨v0, v1, v2, v3, v4, v5, v6, v7, v8, _, _, v11, v12, v13, v14, v15, v16, v17, v18, rfl, HK2, f0, f1, f2, f3, f4, f5, f6, f7, f8, fun _ => rfl, fun _ => rfl, f11, f12, f13, f14, f15, f16, f17, HP⟩
        · rintro f a wx ⟨v0, v1, v2, v3, v4, v5, v6, v7, v8, v9, v10, v11, v12, v13, v14, v15, v16, v17, v18, rfl, HK2, f0, f1, f2, f3, f4, f5, f6, f7, f8, f9, f10, f11, f12, f13, f14, f15, f16, f17, HP⟩ hf hd K hK'; subst hF; simp only [Ord.deps, Region.binds, forall_const] at hd
          obtain rfl := f8 (by first | exact hd.1 | exact hd.2.1 | exact hd.2.2.1 | exact hd.2.2.2.1 | exact hd.2.2.2.2.1 | exact hd.2.2.2.2.2.1 | exact hd.2.2.2.2.2.2.1 | exact hd.2.2.2.2.2.2.2.1 | exact hd.2.2.2.2.2.2.2.2.1 | exact hd.2.2.2.2.2.2.2.2.2.1 | exact hd.2.2.2.2.2.2.2.2.2.2.1 | exact hd.2.2.2.2.2.2.2.2.2.2.2.1 | exact hd.2.2.2.2.2.2.2.2.2.2.2.2.1 | exact hd.2.2.2.2.2.2.2.2.2.2.2.2.2.1 | exact hd.2.2.2.2.2.2.2.2.2.2.2.2.2.2.1 | exact hd.2.2.2.2.2.2.2.2.2.2.2.2.2.2.2.1)
          clear hd
          go_simp
          refine hK'.out _ _ ⟨v0, v1, v2, v3, v4, v5, v6, v7, _, v9, v10, _, v12, v13, v14, v15, v16, v17, v18, rfl, HK2, f0, f1, f2, f3, f4, f5, f6, f7, fun _ => rfl, f9, f10, fun _ => rfl, f12, f13, f14, f15, f16, f17, HP⟩
        · rintro f a wx ⟨v0, v1, v2, v3, v4, v5, v6, v7, v8, v9, v10, v11, v12, v13, v14, v15, v16, v17, v18, rfl, HK2, f0, f1, f2, f3, f4, f5, f6, f7, f8, f9, f10, f11, f12, f13, f14, f15, f16, f17, HP⟩ hf hd K hK'; subst hF; simp only [Ord.deps, Region.binds, forall_const] at hd
          obtain rfl := f11 (by first | exact hd.1 | exact hd.2.1 | exact hd.2.2.1 | exact hd.2.2.2.1 | exact hd.2.2.2.2.1 | exact hd.2.2.2.2.2.1 | exact hd.2.2.2.2.2.2.1 | exact hd.2.2.2.2.2.2.2.1 | exact hd.2.2.2.2.2.2.2.2.1 | exact hd.2.2.2.2.2.2.2.2.2.1 | exact hd.2.2.2.2.2.2.2.2.2.2.1 | exact hd.2.2.2.2.2.2.2.2.2.2.2.1 | exact hd.2.2.2.2.2.2.2.2.2.2.2.2.1 | exact hd.2.2.2.2.2.2.2.2.2.2.2.2.2.1 | exact hd.2.2.2.2.2.2.2.2.2.2.2.2.2.2.1 | exact hd.2.2.2.2.2.2.2.2.2.2.2.2.2.2.2.1)
          clear hd
          go_simp
          refine hK'.out _ _ ⟨v0, v1, v2, v3, v4, v5, v6, v7, v8, v9, v10, _, _, v13, v14, v15, v16, v17, v18, rfl, HK2, f0, f1, f2, f3, f4, f5, f6, f7, f8, f9, f10, fun _ => rfl, fun _ => rfl, f13, f14, f15, f16, f17, HP⟩
        · rintro f a wx ⟨v0, v1, v2, v3, v4, v5, v6, v7, v8, v9, v10, v11, v12, v13, v14, v15, v16, v17, v18, rfl, HK2, f0, f1, f2, f3, f4, f5, f6, f7, f8, f9, f10, f11, f12, f13, f14, f15, f16, f17, HP⟩ hf hd K hK'; subst hF; simp only [Ord.deps, Region.binds, forall_const] at hd
          obtain rfl := f12 (by first | exact hd.1 | exact hd.2.1 | exact hd.2.2.1 | exact hd.2.2.2.1 | exact hd.2.2.2.2.1 | exact hd.2.2.2.2.2.1 | exact hd.2.2.2.2.2.2.1 | exact hd.2.2.2.2.2.2.2.1 | exact hd.2.2.2.2.2.2.2.2.1 | exact hd.2.2.2.2.2.2.2.2.2.1 | exact hd.2.2.2.2.2.2.2.2.2.2.1 | exact hd.2.2.2.2.2.2.2.2.2.2.2.1 | exact hd.2.2.2.2.2.2.2.2.2.2.2.2.1 | exact hd.2.2.2.2.2.2.2.2.2.2.2.2.2.1 | exact hd.2.2.2.2.2.2.2.2.2.2.2.2.2.2.1 | exact hd.2.2.2.2.2.2.2.2.2.2.2.2.2.2.2.1)
          obtain rfl := f10 (by first | exact hd.1 | exact hd.2.1 | exact hd.2.2.1 | exact hd.2.2.2.1 | exact hd.2.2.2.2.1 | exact hd.2.2.2.2.2.1 | exact hd.2.2.2.2.2.2.1 | exact hd.2.2.2.2.2.2.2.1 | exact hd.2.2.2.2.2.2.2.2.1 | exact hd.2.2.2.2.2.2.2.2.2.1 | exact hd.2.2.2.2.2.2.2.2.2.2.1 | exact hd.2.2.2.2.2.2.2.2.2.2.2.1 | exact hd.2.2.2.2.2.2.2.2.2.2.2.2.1 | exact hd.2.2.2.2.2.2.2.2.2.2.2.2.2.1 | exact hd.2.2.2.2.2.2.2.2.2.2.2.2.2.2.1 | exact hd.2.2.2.2.2.2.2.2.2.2.2.2.2.2.2.1)
          clear hd
          go_simp
          refine hK'.out _ _ ⟨v0, v1, v2, v3, v4, v5, v6, v7, v8, v9, _, v11, _, _, v14, v15, v16, v17, v18, rfl, HK2, f0, f1, f2, f3, f4, f5, f6, f7, f8, f9, fun _ => rfl, f11, fun _ => rfl, fun _ => rfl, f14, f15, f16, f17, HP⟩
        · rintro f a wx ⟨v0, v1, v2, v3, v4, v5, v6, v7, v8, v9, v10, v11, v12, v13, v14, v15, v16, v17, v18, rfl, HK2, f0, f1, f2, f3, f4, f5, f6, f7, f8, f9, f10, f11, f12, f13, f14, f15, f16, f17, HP⟩ hf hd K hK'; subst hF; simp only [Ord.deps, Region.binds, forall_const] at hd
          obtain rfl := f13 (by first | exact hd.1 | exact hd.2.1 | exact hd.2.2.1 | exact hd.2.2.2.1 | exact hd.2.2.2.2.1 | exact hd.2.2.2.2.2.1 | exact hd.2.2.2.2.2.2.1 | exact hd.2.2.2.2.2.2.2.1 | exact hd.2.2.2.2.2.2.2.2.1 | exact hd.2.2.2.2.2.2.2.2.2.1 | exact hd.2.2.2.2.2.2.2.2.2.2.1 | exact hd.2.2.2.2.2.2.2.2.2.2.2.1 | exact hd.2.2.2.2.2.2.2.2.2.2.2.2.1 | exact hd.2.2.2.2.2.2.2.2.2.2.2.2.2.1 | exact hd.2.2.2.2.2.2.2.2.2.2.2.2.2.2.1 | exact hd.2.2.2.2.2.2.2.2.2.2.2.2.2.2.2.1)
          obtain ⟨⟨s1, s2, s3⟩, ⟨l0, l1, l2, l3, l4, l5, l6⟩, ⟨n0, n1, n2, n3, n4, n5⟩, ⟨a0, a1, a2, a3⟩, ⟨r0, r1, r2, r3⟩⟩ := HF.out _ HK2.out
          clear hd
          go_simp
          refine hK'.out _ _ ⟨v0, v1, v2, v3, v4, v5, v6, v7, v8, v9, v10, v11, v12, _, _, v15, v16, v17, v18, rfl, HK2, f0, f1, f2, f3, f4, f5, f6, f7, f8, f9, f10, f11, f12, fun _ => rfl, fun _ => rfl, f15, f16, f17, HP⟩
        · rintro f a wx ⟨v0, v1, v2, v3, v4, v5, v6, v7, v8, v9, v10, v11, v12, v13, v14, v15, v16, v17, v18, rfl, HK2, f0, f1, f2, f3, f4, f5, f6, f7, f8, f9, f10, f11, f12, f13, f14, f15, f16, f17, HP⟩ hf hd K hK'; subst hF
          obtain ⟨⟨s1, s2, s3⟩, ⟨l0, l1, l2, l3, l4, l5, l6⟩, ⟨n0, n1, n2, n3, n4, n5⟩, ⟨a0, a1, a2, a3⟩, ⟨r0, r1, r2, r3⟩⟩ := HF.out _ HK2.out
          clear hd
          go_simp
          refine hK'.out _ _ ⟨v0, v1, v2, v3, v4, v5, v6, v7, v8, v9, v10, v11, v12, v13, v14, _, v16, v17, v18, rfl, HK2, f0, f1, f2, f3, f4, f5, f6, f7, f8, f9, f10, f11, f12, f13, f14, fun _ => rfl, f16, f17, HP⟩
        · rintro f a wx ⟨v0, v1, v2, v3, v4, v5, v6, v7, v8, v9, v10, v11, v12, v13, v14, v15, v16, v17, v18, rfl, HK2, f0, f1, f2, f3, f4, f5, f6, f7, f8, f9, f10, f11, f12, f13, f14, f15, f16, f17, HP⟩ hf hd K hK'; subst hF
          obtain ⟨⟨s1, s2, s3⟩, ⟨l0, l1, l2, l3, l4, l5, l6⟩, ⟨n0, n1, n2, n3, n4, n5⟩, ⟨a0, a1, a2, a3⟩, ⟨r0, r1, r2, r3⟩⟩ := HF.out _ HK2.out
          clear hd
          go_simp
          refine hK'.out _ _ ⟨v0, v1, v2, v3, v4, v5, v6, v7, v8, v9, v10, v11, v12, v13, v14, v15, _, v17, v18, rfl, HK2, f0, f1, f2, f3, f4, f5, f6, f7, f8, f9, f10, f11, f12, f13, f14, f15, fun _ => rfl, f17, HP⟩
        · rintro f a wx ⟨v0, v1, v2, v3, v4, v5, v6, v7, v8, v9, v10, v11, v12, v13, v14, v15, v16, v17, v18, rfl, HK2, f0, f1, f2, f3, f4, f5, f6, f7, f8, f9, f10, f11, f12, f13, f14, f15, f16, f17, HP⟩ hf hd K hK'; subst hF; simp only [Ord.deps, Region.binds, forall_const] at hd
          obtain rfl := f7 (by first | exact hd.1 | exact hd.2.1 | exact hd.2.2.1 | exact hd.2.2.2.1 | exact hd.2.2.2.2.1 | exact hd.2.2.2.2.2.1 | exact hd.2.2.2.2.2.2.1 | exact hd.2.2.2.2.2.2.2.1 | exact hd.2.2.2.2.2.2.2.2.1 | exact hd.2.2.2.2.2.2.2.2.2.1 | exact hd.2.2.2.2.2.2.2.2.2.2.1 | exact hd.2.2.2.2.2.2.2.2.2.2.2.1 | exact hd.2.2.2.2.2.2.2.2.2.2.2.2.1 | exact hd.2.2.2.2.2.2.2.2.2.2.2.2.2.1 | exact hd.2.2.2.2.2.2.2.2.2.2.2.2.2.2.1 | exact hd.2.2.2.2.2.2.2.2.2.2.2.2.2.2.2.1)
          obtain rfl := f14 (by first | exact hd.1 | exact hd.2.1 | exact hd.2.2.1 | exact hd.2.2.2.1 | exact hd.2.2.2.2.1 | exact hd.2.2.2.2.2.1 | exact hd.2.2.2.2.2.2.1 | exact hd.2.2.2.2.2.2.2.1 | exact hd.2.2.2.2.2.2.2.2.1 | exact hd.2.2.2.2.2.2.2.2.2.1 | exact hd.2.2.2.2.2.2.2.2.2.2.1 | exact hd.2.2.2.2.2.2.2.2.2.2.2.1 | exact hd.2.2.2.2.2.2.2.2.2.2.2.2.1 | exact hd.2.2.2.2.2.2.2.2.2.2.2.2.2.1 | exact hd.2.2.2.2.2.2.2.2.2.2.2.2.2.2.1 | exact hd.2.2.2.2.2.2.2.2.2.2.2.2.2.2.2.1)
          obtain rfl := f15 (by first | exact hd.1 | exact hd.2.1 | exact hd.2.2.1 | exact hd.2.2.2.1 | exact hd.2.2.2.2.1 | exact hd.2.2.2.2.2.1 | exact hd.2.2.2.2.2.2.1 | exact hd.2.2.2.2.2.2.2.1 | exact hd.2.2.2.2.2.2.2.2.1 | exact hd.2.2.2.2.2.2.2.2.2.1 | exact hd.2.2.2.2.2.2.2.2.2.2.1 | exact hd.2.2.2.2.2.2.2.2.2.2.2.1 | exact hd.2.2.2.2.2.2.2.2.2.2.2.2.1 | exact hd.2.2.2.2.2.2.2.2.2.2.2.2.2.1 | exact hd.2.2.2.2.2.2.2.2.2.2.2.2.2.2.1 | exact hd.2.2.2.2.2.2.2.2.2.2.2.2.2.2.2.1)
          obtain rfl := f16 (by first | exact hd.1 | exact hd.2.1 | exact hd.2.2.1 | exact hd.2.2.2.1 | exact hd.2.2.2.2.1 | exact hd.2.2.2.2.2.1 | exact hd.2.2.2.2.2.2.1 | exact hd.2.2.2.2.2.2.2.1 | exact hd.2.2.2.2.2.2.2.2.1 | exact hd.2.2.2.2.2.2.2.2.2.1 | exact hd.2.2.2.2.2.2.2.2.2.2.1 | exact hd.2.2.2.2.2.2.2.2.2.2.2.1 | exact hd.2.2.2.2.2.2.2.2.2.2.2.2.1 | exact hd.2.2.2.2.2.2.2.2.2.2.2.2.2.1 | exact hd.2.2.2.2.2.2.2.2.2.2.2.2.2.2.1 | exact hd.2.2.2.2.2.2.2.2.2.2.2.2.2.2.2.1)
          clear hd
          go_simp
          go_wp2_with (go_at_call 96; refine (node_any x _ _ _ _ _ (envT E t) va vb (HE.out.kept (K3.out.trans HK2.out))).mono ?_; rintro e w5 ⟨rfl, k5⟩; have K4 := Lib.hid k5; clear k5)
          refine hK'.out _ _ ⟨v0, v1, v2, v3, v4, v5, v6, _, v8, v9, v10, v11, v12, v13, _, _, _, _, v18, rfl, Lib.hid (HK2.out.trans K4.out), f0, f1, f2, f3, f4, f5, f6, fun _ => rfl, f8, f9, f10, f11, f12, f13, fun _ => rfl, fun _ => rfl, fun _ => rfl, fun _ => rfl, Lib.hid (HP.out.keep K4.out)⟩
        · rintro f a wx ⟨v0, v1, v2, v3, v4, v5, v6, v7, v8, v9, v10, v11, v12, v13, v14, v15, v16, v17, v18, rfl, HK2, f0, f1, f2, f3, f4, f5, f6, f7, f8, f9, f10, f11, f12, f13, f14, f15, f16, f17, HP⟩ hf hd K hK'; subst hF
          have h9 : f 19 = false := by
            cases h : f 19 with
            | false => rfl
            | true => exact absurd (HP.out.fill6 h) (by rw [hf]; simp)
          clear hd
          go_simp
          refine hK'.out _ _ ⟨v0, v1, v2, v3, v4, v5, v6, v7, v8, v9, v10, v11, v12, v13, v14, v15, v16, v17, _, rfl, Lib.hid (HK2.out.alloc _), f0, f1, f2, f3, f4, f5, f6, f7, f8, f9, f10, f11, f12, f13, f14, f15, f16, f17, Lib.hid ?_⟩
          show Ord.BoxAt _ _ _ _ true (f 19) _ _
          rw [h9]
          exact Ord.BoxAt.make (Below.size HK2.out)
        · rintro f a wx ⟨v0, v1, v2, v3, v4, v5, v6, v7, v8, v9, v10, v11, v12, v13, v14, v15, v16, v17, v18, rfl, HK2, f0, f1, f2, f3, f4, f5, f6, f7, f8, f9, f10, f11, f12, f13, f14, f15, f16, f17, HP⟩ hf hd K hK'; subst hF; simp only [Ord.deps, Region.binds, forall_const] at hd
          obtain rfl := f17 (by first | exact hd.1 | exact hd.2.1 | exact hd.2.2.1 | exact hd.2.2.2.1 | exact hd.2.2.2.2.1 | exact hd.2.2.2.2.2.1 | exact hd.2.2.2.2.2.2.1 | exact hd.2.2.2.2.2.2.2.1 | exact hd.2.2.2.2.2.2.2.2.1 | exact hd.2.2.2.2.2.2.2.2.2.1 | exact hd.2.2.2.2.2.2.2.2.2.2.1 | exact hd.2.2.2.2.2.2.2.2.2.2.2.1 | exact hd.2.2.2.2.2.2.2.2.2.2.2.2.1 | exact hd.2.2.2.2.2.2.2.2.2.2.2.2.2.1 | exact hd.2.2.2.2.2.2.2.2.2.2.2.2.2.2.1 | exact hd.2.2.2.2.2.2.2.2.2.2.2.2.2.2.2.1)
          have h6 : f 18 = true := by first | exact hd.1 | exact hd.2.1 | exact hd.2.2.1 | exact hd.2.2.2.1 | exact hd.2.2.2.2.1 | exact hd.2.2.2.2.2.1 | exact hd.2.2.2.2.2.2.1 | exact hd.2.2.2.2.2.2.2.1 | exact hd.2.2.2.2.2.2.2.2.1 | exact hd.2.2.2.2.2.2.2.2.2.1 | exact hd.2.2.2.2.2.2.2.2.2.2.1 | exact hd.2.2.2.2.2.2.2.2.2.2.2.1 | exact hd.2.2.2.2.2.2.2.2.2.2.2.2.1 | exact hd.2.2.2.2.2.2.2.2.2.2.2.2.2.1 | exact hd.2.2.2.2.2.2.2.2.2.2.2.2.2.2.1 | exact hd.2.2.2.2.2.2.2.2.2.2.2.2.2.2.2.1 | exact hd.2.2.2.2.2.2.2.2.2.2.2.2.2.2.2.2.1 | exact hd.2.2.2.2.2.2.2.2.2.2.2.2.2.2.2.2.2.1 | exact hd.2.2.2.2.2.2.2.2.2.2.2.2.2.2.2.2.2.2.1 | exact hd.2.2.2.2.2.2.2.2.2.2.2.2.2.2.2.2.2.2.2.1 | exact hd.2.2.2.2.2.2.2.2.2.2.2.2.2.2.2.2.2.2.2.2.1 | exact hd.2.2.2.2.2.2.2.2.2.2.2.2.2.2.2.2.2.2.2.2.2.1 | exact hd.2.2.2.2.2.2.2.2.2.2.2.2.2.2.2.2.2.2.2.2.2.2.1 | exact hd.2.2.2.2.2.2.2.2.2.2.2.2.2.2.2.2.2.2.2.2.2.2.2.1 | exact hd.2.2.2.2.2.2.2.2.2.2.2.2.2.2.2.2.2.2.2.2.2.2.2.2.1 | exact hd.2.2.2.2.2.2.2.2.2.2.2.2.2.2.2.2.2.2.2.2.2.2.2.2.2.1 | exact hd.2.2.2.2.2.2.2.2.2.2.2.2.2.2.2.2.2.2.2.2.2.2.2.2.2.2.1 | exact hd.2.2.2.2.2.2.2.2.2.2.2.2.2.2.2.2.2.2.2.2.2.2.2.2.2.2.2.1 | exact hd.2.2.2.2.2.2.2.2.2.2.2.2.2.2.2.2.2.2.2.2.2.2.2.2.2.2.2.2.1 | exact hd.2.2.2.2.2.2.2.2.2.2.2.2.2.2.2.2.2.2.2.2.2.2.2.2.2.2.2.2.2.1
          have HQ := HP.out
          rw [hf, h6] at HQ
          obtain ⟨bo, rfl, hb, hx⟩ := HQ.one rfl
          simp only [Bool.false_eq_true, if_false] at hx
          have HX := Lib.hid HQ
          have xc0 := bx_cell hx 0 _ rfl
          have xc1 := bx_cell hx 1 _ rfl
          have xc2 := bx_cell hx 2 _ rfl
          have xc3 := bx_cell hx 3 _ rfl
          have xcf := bx_froz hx
          have xcl := (Array.getElem?_eq_some_iff.1 hx).1
          clear HQ hx
          clear hd
          go_simp
          refine hK'.out _ _ ⟨v0, v1, v2, v3, v4, v5, v6, v7, v8, v9, v10, v11, v12, v13, v14, v15, v16, _, _, rfl, Lib.hid (Ord.below4 HK2.out hb _ _ _ _), f0, f1, f2, f3, f4, f5, f6, f7, f8, f9, f10, f11, f12, f13, f14, f15, f16, fun _ => rfl, Lib.hid ?_⟩
          show Ord.BoxAt _ _ _ _ (f 18) true _ _
          rw [h6]
          exact HX.out.fill
      · rintro f a wx hall ⟨v0, v1, v2, v3, v4, v5, v6, v7, v8, v9, v10, v11, v12, v13, v14, v15, v16, v17, v18, rfl, HK2, f0, f1, f2, f3, f4, f5, f6, f7, f8, f9, f10, f11, f12, f13, f14, f15, f16, f17, HP⟩
        subst hF
        obtain rfl := f0 (hall 0 (by decide))
        obtain rfl := f1 (hall 1 (by decide))
        obtain rfl := f2 (hall 2 (by decide))
        obtain rfl := f3 (hall 3 (by decide))
        obtain rfl := f4 (hall 4 (by decide))
        obtain rfl := f5 (hall 5 (by decide))
        obtain rfl := f6 (hall 6 (by decide))
        obtain rfl := f7 (hall 7 (by decide))
        obtain rfl := f8 (hall 8 (by decide))
        obtain rfl := f9 (hall 9 (by decide))
        obtain rfl := f10 (hall 10 (by decide))
        obtain rfl := f11 (hall 11 (by decide))
        obtain rfl := f12 (hall 12 (by decide))
        obtain rfl := f13 (hall 13 (by decide))
        obtain rfl := f14 (hall 14 (by decide))
        obtain rfl := f15 (hall 15 (by decide))
        obtain rfl := f16 (hall 16 (by decide))
        obtain rfl := f17 (hall 17 (by decide))
        have HQ := HP.out
        rw [hall 18 (by decide), hall 19 (by decide)] at HQ
        obtain ⟨bo, rfl, hb, hx⟩ := HQ.one rfl
        simp only [if_true] at hx
        have HX := Lib.hid (And.intro HK2.out (And.intro hb hx))
        clear HQ hx HP hall HK2 hb
        go_wp2
        go_meet
        exact ⟨bo, rfl, HX⟩
    case rest =>
      obtain ⟨bo, rfl, HO⟩ := hcut
      obtain ⟨-, -, -, ⟨a0, a1, a2, a3⟩, ⟨r0, r1, r2, r3⟩⟩ := HF.out _ HO.out.1
      have HS3 : Hid (w.heap.size ≤ bo ∧ w3.heap.size ≤ bo ∧ ∀ w', Kept wc w' → w'.heap[w.heap.size]? = some (.cells #[.int .i64 i, .int .i64 t] 139 (0, 0))) := Lib.hid ⟨Nat.le_trans (Below.size K3.out) HO.out.2.1, HO.out.2.1, fun w' hk => kh Y.out.1 (HC.out.1.trans (HO.out.1.trans hk))⟩
      have K5 := Lib.hid (K3.out.trans HO.out.1)
      have HBo := Lib.hid HO.out.2.2
      clear HC HF HO K3 HL HEc HE HA HB
      obtain ⟨nd, hnd⟩ : ∃ nd, nodeA x (envT E t) va vb = nd := ⟨_, rfl⟩
      rw [hnd] at HBo
      have HN := Lib.hid hnd
      clear hnd
      clear Y
      go_upto_block 0 with fail
      go_wp2_with fail
      go_loopg [44] 2 (fun k y wx => ∃ j : Nat, y = .int .i64 (j : Int) ∧ k = 2 - j ∧ j ≤ 2 ∧ (1 ≤ j → va.ub = 0) ∧ (2 ≤ j → vb.ub = 0) ∧ Hid (Kept wc wx))
      case atStart => exact ⟨0, rfl, rfl, by omega, fun h => absurd h (by omega), fun h => absurd h (by omega), Lib.hid (Kept.refl _)⟩
      case round =>
        obtain ⟨j, rfl, rfl, hj, ha, hb, HK6⟩ := hrel
        rcases (show j = 0 ∨ j = 1 ∨ j = 2 by omega) with rfl | rfl | rfl
        · by_cases hu : va.ub = 0
          · have hub : (va.ub != 0) = false := by simp [hu]
            go_wp2
            go_roundg 1
            case measure => omega
            case rel => exact ⟨1, rfl, rfl, by omega, fun _ => hu, fun h => absurd h (by omega), Lib.hid (HK6.out.alloc _)⟩
          · have hub : (va.ub != 0) = true := by simp [hu]
            have xb := kh HBo.out HK6.out
            have ob0 := bx_cell xb 0 _ rfl
            have ob1 := bx_cell xb 1 _ rfl
            have ob2 := bx_cell xb 2 _ rfl
            have ob3 := bx_cell xb 3 _ rfl
            have obf := bx_froz xb
            have obl := (Array.getElem?_eq_some_iff.1 xb).1
            clear xb
            go_wp2
            have HW : Hid (Kept w (((((wr.setCell ⟨bo, 0, none⟩ (.int .i64 0)).setCell ⟨bo, 1, none⟩ (.int .i64 nd.t)).setCell ⟨bo, 2, none⟩ (.int .i64 va.ub)).setCell ⟨bo, 3, none⟩ (.int .i64 va.at_)).alloc (.cells #[.int .i64 va.v, .int .i64 va.t, .int .i64 va.ub, .int .i64 va.at_] 124)) ∧ (((((wr.setCell ⟨bo, 0, none⟩ (.int .i64 0)).setCell ⟨bo, 1, none⟩ (.int .i64 nd.t)).setCell ⟨bo, 2, none⟩ (.int .i64 va.ub)).setCell ⟨bo, 3, none⟩ (.int .i64 va.at_)).alloc (.cells #[.int .i64 va.v, .int .i64 va.t, .int .i64 va.ub, .int .i64 va.at_] 124)).heap[bo]? = some (.cells #[.int .i64 0, .int .i64 nd.t, .int .i64 va.ub, .int .i64 va.at_] 124 (0, 0)) ∧ (((((wr.setCell ⟨bo, 0, none⟩ (.int .i64 0)).setCell ⟨bo, 1, none⟩ (.int .i64 nd.t)).setCell ⟨bo, 2, none⟩ (.int .i64 va.ub)).setCell ⟨bo, 3, none⟩ (.int .i64 va.at_)).alloc (.cells #[.int .i64 va.v, .int .i64 va.t, .int .i64 va.ub, .int .i64 va.at_] 124)).heap[w.heap.size]? = some (.cells #[.int .i64 i, .int .i64 t] 139 (0, 0))) := Lib.hid (close_own K5.out HK6.out HS3.out.1 (HS3.out.2.2 _ (Kept.refl _)) HBo.out _ _ _ _)
            generalize (((((wr.setCell ⟨bo, 0, none⟩ (.int .i64 0)).setCell ⟨bo, 1, none⟩ (.int .i64 nd.t)).setCell ⟨bo, 2, none⟩ (.int .i64 va.ub)).setCell ⟨bo, 3, none⟩ (.int .i64 va.at_)).alloc (.cells #[.int .i64 va.v, .int .i64 va.t, .int .i64 va.ub, .int .i64 va.at_] 124)) = W at *
            clear ob0 ob1 ob2 ob3 obf obl HBo
            have R := HR.out _ HW.out.1
            have s0 := bx_cell HW.out.2.2 0 _ rfl
            have s1 := bx_cell HW.out.2.2 1 _ rfl
            have o0 := bx_cell HW.out.2.1 0 _ rfl
            have o1 := bx_cell HW.out.2.1 1 _ rfl
            have o2 := bx_cell HW.out.2.1 2 _ rfl
            have o3 := bx_cell HW.out.2.1 3 _ rfl
            have c15 := R.ansSlice ht
            obtain ⟨v0, v1, v2, v3⟩ := R.ansCells ht hi
            have vf := bx_froz (R.ab t ht)
            have vl := (Array.getElem?_eq_some_iff.1 (R.ab t ht)).1
            clear R
            go_region
            go_wp2
            refine bodyPost_end (results_none rfl _ _ _) rfl ⟨⟨_, rfl⟩, Lib.hid ?_⟩
            rw [show closeA x (envT E t) va vb = ⟨0, nd.t, va.ub, va.at_⟩ from by unfold closeA; rw [if_pos hu, HN.out]]
            have hf := close_note (HR.out _ HW.out.1) ht hi HW.out.1 ⟨0, nd.t, va.ub, va.at_⟩
            exact hf
        · have hu0 := ha (by omega)
          by_cases hu : vb.ub = 0
          · have hub : (vb.ub != 0) = false := by simp [hu]
            go_wp2
            go_roundg 0
            case measure => omega
            case rel => exact ⟨2, rfl, rfl, by omega, fun _ => hu0, fun _ => hu, Lib.hid (HK6.out.alloc _)⟩
          · have hub : (vb.ub != 0) = true := by simp [hu]
            have xb := kh HBo.out HK6.out
            have ob0 := bx_cell xb 0 _ rfl
            have ob1 := bx_cell xb 1 _ rfl
            have ob2 := bx_cell xb 2 _ rfl
            have ob3 := bx_cell xb 3 _ rfl
            have obf := bx_froz xb
            have obl := (Array.getElem?_eq_some_iff.1 xb).1
            clear xb
            go_wp2
            have HW : Hid (Kept w (((((wr.setCell ⟨bo, 0, none⟩ (.int .i64 0)).setCell ⟨bo, 1, none⟩ (.int .i64 nd.t)).setCell ⟨bo, 2, none⟩ (.int .i64 vb.ub)).setCell ⟨bo, 3, none⟩ (.int .i64 vb.at_)).alloc (.cells #[.int .i64 vb.v, .int .i64 vb.t, .int .i64 vb.ub, .int .i64 vb.at_] 124)) ∧ (((((wr.setCell ⟨bo, 0, none⟩ (.int .i64 0)).setCell ⟨bo, 1, none⟩ (.int .i64 nd.t)).setCell ⟨bo, 2, none⟩ (.int .i64 vb.ub)).setCell ⟨bo, 3, none⟩ (.int .i64 vb.at_)).alloc (.cells #[.int .i64 vb.v, .int .i64 vb.t, .int .i64 vb.ub, .int .i64 vb.at_] 124)).heap[bo]? = some (.cells #[.int .i64 0, .int .i64 nd.t, .int .i64 vb.ub, .int .i64 vb.at_] 124 (0, 0)) ∧ (((((wr.setCell ⟨bo, 0, none⟩ (.int .i64 0)).setCell ⟨bo, 1, none⟩ (.int .i64 nd.t)).setCell ⟨bo, 2, none⟩ (.int .i64 vb.ub)).setCell ⟨bo, 3, none⟩ (.int .i64 vb.at_)).alloc (.cells #[.int .i64 vb.v, .int .i64 vb.t, .int .i64 vb.ub, .int .i64 vb.at_] 124)).heap[w.heap.size]? = some (.cells #[.int .i64 i, .int .i64 t] 139 (0, 0))) := Lib.hid (close_own K5.out HK6.out HS3.out.1 (HS3.out.2.2 _ (Kept.refl _)) HBo.out _ _ _ _)
            generalize (((((wr.setCell ⟨bo, 0, none⟩ (.int .i64 0)).setCell ⟨bo, 1, none⟩ (.int .i64 nd.t)).setCell ⟨bo, 2, none⟩ (.int .i64 vb.ub)).setCell ⟨bo, 3, none⟩ (.int .i64 vb.at_)).alloc (.cells #[.int .i64 vb.v, .int .i64 vb.t, .int .i64 vb.ub, .int .i64 vb.at_] 124)) = W at *
            clear ob0 ob1 ob2 ob3 obf obl HBo
            have R := HR.out _ HW.out.1
            have s0 := bx_cell HW.out.2.2 0 _ rfl
            have s1 := bx_cell HW.out.2.2 1 _ rfl
            have o0 := bx_cell HW.out.2.1 0 _ rfl
            have o1 := bx_cell HW.out.2.1 1 _ rfl
            have o2 := bx_cell HW.out.2.1 2 _ rfl
            have o3 := bx_cell HW.out.2.1 3 _ rfl
            have c15 := R.ansSlice ht
            obtain ⟨v0, v1, v2, v3⟩ := R.ansCells ht hi
            have vf := bx_froz (R.ab t ht)
            have vl := (Array.getElem?_eq_some_iff.1 (R.ab t ht)).1
            clear R
            go_region
            go_wp2
            refine bodyPost_end (results_none rfl _ _ _) rfl ⟨⟨_, rfl⟩, Lib.hid ?_⟩
            rw [show closeA x (envT E t) va vb = ⟨0, nd.t, vb.ub, vb.at_⟩ from by unfold closeA; rw [if_neg (by omega), if_pos hu, HN.out]]
            have hf := close_note (HR.out _ HW.out.1) ht hi HW.out.1 ⟨0, nd.t, vb.ub, vb.at_⟩
            exact hf
        · go_wp2
          have HW : Hid (Kept w wr ∧ wr.heap[bo]? = some (.cells #[.int .i64 nd.v, .int .i64 nd.t, .int .i64 nd.ub, .int .i64 nd.at_] 124 (0, 0)) ∧ wr.heap[w.heap.size]? = some (.cells #[.int .i64 i, .int .i64 t] 139 (0, 0))) := Lib.hid ⟨K5.out.trans HK6.out, kh HBo.out HK6.out, HS3.out.2.2 _ HK6.out⟩
          have R := HR.out _ HW.out.1
          have s0 := bx_cell HW.out.2.2 0 _ rfl
          have s1 := bx_cell HW.out.2.2 1 _ rfl
          have o0 := bx_cell HW.out.2.1 0 _ rfl
          have o1 := bx_cell HW.out.2.1 1 _ rfl
          have o2 := bx_cell HW.out.2.1 2 _ rfl
          have o3 := bx_cell HW.out.2.1 3 _ rfl
          have c15 := R.ansSlice ht
          obtain ⟨v0, v1, v2, v3⟩ := R.ansCells ht hi
          have vf := bx_froz (R.ab t ht)
          have vl := (Array.getElem?_eq_some_iff.1 (R.ab t ht)).1
          clear R
          go_region
          go_wp2
          refine bodyPost_end (results_none rfl _ _ _) rfl ⟨⟨_, rfl⟩, Lib.hid ?_⟩
          rw [show closeA x (envT E t) va vb = nd from by unfold closeA; rw [if_neg (by have := ha (by omega); omega), if_neg (by have := hb (by omega); omega), HN.out]]
          have hf := close_note (HR.out _ HW.out.1) ht hi HW.out.1 nd
          exact hf
end
end Go.Proofs.Ythjnkjekidagiaa.Evl
