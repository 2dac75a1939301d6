/-
  Package eval's reckoner: openKid.
-/
import Derived.Test.YthjnkjekidagiaaEvF
namespace Go.Proofs.Ythjnkjekidagiaa.Evl
open Go.RowKit
open Prs (Ex)
open Fnd (bx_cell bx_froz)
section
variable {w0 w w' : World} {q : Nat} {lv mv bv ov obv : Value} {l : List Ex} {E : Env} {g h : Nat → Nat} {e : Nat → List Bool} {a : Nat → List Ans}
/-- A spot that is there and not marked yet. -/
def Open (l : List Ex) (e : Nat → List Bool) (s : Int × Nat) : Prop := ∃ i : Nat, s.1 = i ∧ i < l.length ∧ markF e (i, s.2) = false
theorem open_or (l : List Ex) (e : Nat → List Bool) (s : Int × Nat) : Open l e s ∨ Past l e s := by
  by_cases h0 : s.1 < 0
  · exact .inr (.inl h0)
  by_cases h1 : (l.length : Int) ≤ s.1
  · exact .inr (.inr (.inl h1))
  cases hm : markF e (s.1.toNat, s.2) with
  | true => exact .inr (.inr (.inr hm))
  | false => exact .inl ⟨s.1.toNat, by omega, by omega, hm⟩
theorem enter_open (H : Rk w0 w q lv mv bv ov obv l E g h e a) {k : Int × Nat} (ht : k.2 < 2) (ho : Open l e k) : Calls Try.prog 85 #[.pointer (some ⟨q, 0, none⟩), spotV k] w fun x w' => x = .returned (.bool true) ∧ Hid (Rk w0 w' q lv mv bv ov obv l E g h (updF e (k.1.toNat, k.2) true) (updF a (k.1.toNat, k.2) Ans.none) ∧ Rpr.Chg (Own2 g h) w w') := by
  obtain ⟨i, hi, hl, hm⟩ := ho
  obtain ⟨x, t⟩ := k
  simp only at hi ht hm ⊢
  subst hi
  simpa using enter_yes H ht hl hm
theorem Rk.stay (H : Rk w0 w q lv mv bv ov obv l E g h e a) (hC : Rpr.Chg (Own2 g h) w w') {k : Nat} {c : Array Value} {t : TypeId} (hk : w.heap[k]? = some (.cells c t (0, 0))) (h1 : t ≠ 4) (h2 : t ≠ 124) : w'.heap[k]? = some (.cells c t (0, 0)) :=
  hC.heap hk fun ⟨s, hs, ho⟩ => by
    rcases ho with ho | ho
    · exact hne hk (H.eb s hs) h1 ho
    · exact hne hk (H.ab s hs) h2 ho
theorem Rk.other (H : Rk w0 w q lv mv bv ov obv l E g h e a) {r : Nat} {c : Array Value} {t : TypeId} (hr : w.heap[r]? = some (.cells c t (0, 0))) (lo : w0.heap.size ≤ r) (h1 : t ≠ 4) (h2 : t ≠ 124) (h3 : t ≠ 154) (o : Nat) (u : Value) : Rk w0 (w.setCell ⟨r, o, none⟩ u) q lv mv bv ov obv l E g h e a :=
  ⟨Below.setCell H.kept (p := ⟨r, o, none⟩) lo _, H.loq, H.log, (heap_setCell_other _ _ _ _ (hne H.box hr h3.symm)).trans H.box, fun s hs => (heap_setCell_other _ _ _ _ (hne (H.eb s hs) hr h1.symm)).trans (H.eb s hs), fun s hs => (heap_setCell_other _ _ _ _ (hne (H.ab s hs) hr h2.symm)).trans (H.ab s hs), H.el, H.al, H.ne, H.list, H.env⟩
theorem Rk.put2 (H : Rk w0 w q lv mv bv ov obv l E g h e a) {r : Nat} {x0 x1 : Value} (hr : w.heap[r]? = some (.cells #[x0, x1] 139 (0, 0))) (lo : w0.heap.size ≤ r) (a0 b0 : Value) :
    Rk w0 ((w.setCell ⟨r, 0, none⟩ a0).setCell ⟨r, 1, none⟩ b0) q lv mv bv ov obv l E g h e a ∧ ((w.setCell ⟨r, 0, none⟩ a0).setCell ⟨r, 1, none⟩ b0).heap[r]? = some (.cells #[a0, b0] 139 (0, 0)) := by
  have e1 := heap_setCell_same w r 0 _ _ a0 hr
  have e2 := heap_setCell_same _ r 1 _ _ b0 e1
  exact ⟨(H.other hr lo (by decide) (by decide) (by decide) 0 a0).other e1 lo (by decide) (by decide) (by decide) 1 b0, by simpa using e2⟩
set_option maxRecDepth 100000 in
set_option maxHeartbeats 4000000 in
theorem openKid_a (H : Rk w0 w q lv mv bv ov obv l E g h e a) {i t : Nat} (hi : i < l.length) (ht : t < 2) (ho : Open l e (kidA l[i] t)) : Calls Try.prog 87 #[.pointer (some ⟨q, 0, none⟩), spotV ((i : Int), t)] w fun x w' => x = .returned (.tuple #[spotV (kidA l[i] t), .bool true]) ∧ Hid (Rk w0 w' q lv mv bv ov obv l E g h (updF e ((kidA l[i] t).1.toNat, (kidA l[i] t).2) true) (updF a ((kidA l[i] t).1.toNat, (kidA l[i] t).2) Ans.none) ∧ Rpr.Chg (Own2 g h) w w') := by
  have hta := kidA_t l[i] ht
  have HK := Lib.hid (fun w' (hk : Kept w w') => kids_any (H.keep hk) (t := t) hi)
  have HR := Lib.hid (fun w' (hk : Kept w w') => H.keep hk)
  have hlo := Below.size H.kept
  have HE := Lib.hid (fun w' (hk : Kept w w') => enter_open (H.keep hk) hta ho)
  clear ho hta H
  generalize kidA l[i] t = ka at *
  generalize kidB l[i] t = kb at *
  unfold spotV at *
  go_enter Try.func87, Try.ntmps87
  go_upto_region 1 with fail
  obtain ⟨x0, x1, kW⟩ := two w (.cells #[.int .i64 i, .int .i64 t] 139) (.cells #[.int .i64 0, .int .i64 0] 139)
  generalize ((w.alloc (.cells #[.int .i64 i, .int .i64 t] 139)).alloc (.cells #[.int .i64 0, .int .i64 0] 139)) = W at *
  have s0 := bx_cell x0 0 _ rfl
  have s1 := bx_cell x0 1 _ rfl
  have X := Lib.hid x1
  have KW := Lib.hid kW
  clear x0 x1 kW
  go_upto_region 2 with (go_at_call 95; refine (HK.out _ (by exact KW.out)).mono ?_; rintro e w1 ⟨rfl, k1⟩; have K1 := Lib.hid k1; clear k1)
  obtain ⟨y0, y1, kY⟩ := two w1 (.cells #[.int .i64 ka.1, .int .i64 ka.2] 139) (.cells #[.int .i64 kb.1, .int .i64 kb.2] 139)
  have K2 := Lib.hid (KW.out.trans (K1.out.trans kY))
  have Y := Lib.hid (And.intro (kh X.out (K1.out.trans kY)) (And.intro y0 y1))
  have hc : w.heap.size + 1 < w1.heap.size := Nat.lt_of_lt_of_le (Array.getElem?_eq_some_iff.1 X.out).1 (Below.size K1.out)
  clear y0 y1 kY X KW K1 s0 s1 HK
  generalize ((w1.alloc (.cells #[.int .i64 ka.1, .int .i64 ka.2] 139)).alloc (.cells #[.int .i64 kb.1, .int .i64 kb.2] 139)) = W1 at *
  generalize w1.heap.size = c at *
  have r0 := bx_cell Y.out.1 0 _ rfl
  have r1 := bx_cell Y.out.1 1 _ rfl
  have rf := bx_froz Y.out.1
  have a0 := bx_cell Y.out.2.1 0 _ rfl
  have a1 := bx_cell Y.out.2.1 1 _ rfl
  have b0 := bx_cell Y.out.2.2 0 _ rfl
  have b1 := bx_cell Y.out.2.2 1 _ rfl
  go_wp2_with (first | (go_at_call 85; refine (HE.out _ (by exact K2.out)).mono ?_; rintro e w2 ⟨rfl, H2⟩; have q0 := (HR.out _ K2.out).stay H2.out.2 Y.out.1 (by decide) (by decide); have q1 := (HR.out _ K2.out).stay H2.out.2 Y.out.2.1 (by decide) (by decide); have q2 := (HR.out _ K2.out).stay H2.out.2 Y.out.2.2 (by decide) (by decide); have r0' := bx_cell q0 0 _ rfl; have r1' := bx_cell q0 1 _ rfl; have rf' := bx_froz q0; have a0' := bx_cell q1 0 _ rfl; have a1' := bx_cell q1 1 _ rfl; have b0' := bx_cell q2 0 _ rfl; have b1' := bx_cell q2 1 _ rfl; have Q := Lib.hid (And.intro q0 (And.intro q1 q2)); clear q0 q1 q2; clear HE))
  obtain ⟨p1, p2⟩ := (H2.out.1).put2 (r := w.heap.size + 1) Q.out.1 (by omega) (.int .i64 ka.1) (.int .i64 ka.2)
  have z0 := bx_cell p2 0 _ rfl
  have z1 := bx_cell p2 1 _ rfl
  have S := Lib.hid p1
  have T := Lib.hid ((Rpr.Chg.setCell ((Rpr.Chg.of_kept K2.out).then H2.out.2) (p := ⟨w.heap.size + 1, 0, none⟩) (fun h => by simp at h; omega) (.int .i64 ka.1)).setCell (p := ⟨w.heap.size + 1, 1, none⟩) (fun h => by simp at h; omega) (.int .i64 ka.2))
  clear p1 p2 r0 r1 rf a0 a1 b0 b1
  simp [bodyPost, results, Try.f87, go_sem, z0, z1]
  exact Lib.hid ⟨S.out, T.out⟩
set_option maxRecDepth 100000 in
set_option maxHeartbeats 4000000 in
theorem openKid_b (H : Rk w0 w q lv mv bv ov obv l E g h e a) {i t : Nat} (hi : i < l.length) (ht : t < 2) (hp : Past l e (kidA l[i] t)) (ho : Open l e (kidB l[i] t)) : Calls Try.prog 87 #[.pointer (some ⟨q, 0, none⟩), spotV ((i : Int), t)] w fun x w' => x = .returned (.tuple #[spotV (kidB l[i] t), .bool true]) ∧ Hid (Rk w0 w' q lv mv bv ov obv l E g h (updF e ((kidB l[i] t).1.toNat, (kidB l[i] t).2) true) (updF a ((kidB l[i] t).1.toNat, (kidB l[i] t).2) Ans.none) ∧ Rpr.Chg (Own2 g h) w w') := by
  have hta := kidA_t l[i] ht
  have htb := kidB_t l[i] ht
  have HK := Lib.hid (fun w' (hk : Kept w w') => kids_any (H.keep hk) (t := t) hi)
  have HR := Lib.hid (fun w' (hk : Kept w w') => H.keep hk)
  have hlo := Below.size H.kept
  have HN := Lib.hid (fun w' (hk : Kept w w') => enter_no (H.keep hk) _ hta hp)
  have HE := Lib.hid (fun w' (hk : Kept w w') => enter_open (H.keep hk) htb ho)
  clear ho hp hta htb H
  generalize kidA l[i] t = ka at *
  generalize kidB l[i] t = kb at *
  unfold spotV at *
  go_enter Try.func87, Try.ntmps87
  go_upto_region 1 with fail
  obtain ⟨x0, x1, kW⟩ := two w (.cells #[.int .i64 i, .int .i64 t] 139) (.cells #[.int .i64 0, .int .i64 0] 139)
  generalize ((w.alloc (.cells #[.int .i64 i, .int .i64 t] 139)).alloc (.cells #[.int .i64 0, .int .i64 0] 139)) = W at *
  have s0 := bx_cell x0 0 _ rfl
  have s1 := bx_cell x0 1 _ rfl
  have X := Lib.hid x1
  have KW := Lib.hid kW
  clear x0 x1 kW
  go_upto_region 2 with (go_at_call 95; refine (HK.out _ (by exact KW.out)).mono ?_; rintro e w1 ⟨rfl, k1⟩; have K1 := Lib.hid k1; clear k1)
  obtain ⟨y0, y1, kY⟩ := two w1 (.cells #[.int .i64 ka.1, .int .i64 ka.2] 139) (.cells #[.int .i64 kb.1, .int .i64 kb.2] 139)
  have K2 := Lib.hid (KW.out.trans (K1.out.trans kY))
  have Y := Lib.hid (And.intro (kh X.out (K1.out.trans kY)) (And.intro y0 y1))
  have hc : w.heap.size + 1 < w1.heap.size := Nat.lt_of_lt_of_le (Array.getElem?_eq_some_iff.1 X.out).1 (Below.size K1.out)
  clear y0 y1 kY X KW K1 s0 s1 HK
  generalize ((w1.alloc (.cells #[.int .i64 ka.1, .int .i64 ka.2] 139)).alloc (.cells #[.int .i64 kb.1, .int .i64 kb.2] 139)) = W1 at *
  generalize w1.heap.size = c at *
  have r0 := bx_cell Y.out.1 0 _ rfl
  have r1 := bx_cell Y.out.1 1 _ rfl
  have rf := bx_froz Y.out.1
  have a0 := bx_cell Y.out.2.1 0 _ rfl
  have a1 := bx_cell Y.out.2.1 1 _ rfl
  have b0 := bx_cell Y.out.2.2 0 _ rfl
  have b1 := bx_cell Y.out.2.2 1 _ rfl
  go_wp2_with (first | (go_at_call 85; refine (HN.out _ (by exact K2.out)).mono ?_; rintro e w2 ⟨rfl, k2⟩; have K3 := Lib.hid (K2.out.trans k2); have q0 := kh Y.out.1 k2; have q1 := kh Y.out.2.1 k2; have q2 := kh Y.out.2.2 k2; clear HN k2; have r0' := bx_cell q0 0 _ rfl; have r1' := bx_cell q0 1 _ rfl; have rf' := bx_froz q0; have a0' := bx_cell q1 0 _ rfl; have a1' := bx_cell q1 1 _ rfl; have b0' := bx_cell q2 0 _ rfl; have b1' := bx_cell q2 1 _ rfl; have Q3 := Lib.hid (And.intro q0 (And.intro q1 q2)); clear q0 q1 q2))
  go_region_held3 (fun w' => w'.cell? ⟨c + 1, 0, none⟩ = some (.int .i64 kb.1) ∧ w'.cell? ⟨c + 1, 1, none⟩ = some (.int .i64 kb.2)) (first | go_keep | exact ⟨b0', b1'⟩ | exact ⟨b0'', b1''⟩ | exact ⟨t0, t1⟩) (first | (go_at_call 85; refine (HE.out _ (by exact K3.out.drew)).mono ?_; rintro e w3 ⟨rfl, H3⟩; have q0 := (HR.out _ K3.out.drew).stay H3.out.2 Q3.out.1 (by decide) (by decide); have q1 := (HR.out _ K3.out.drew).stay H3.out.2 Q3.out.2.1 (by decide) (by decide); have q2 := (HR.out _ K3.out.drew).stay H3.out.2 Q3.out.2.2 (by decide) (by decide); have h4 := (heap_setCell_other _ ⟨w.heap.size + 1, 1, none⟩ (c + 1) (.int .i64 kb.2) (by simp; omega)).trans ((heap_setCell_other w3 ⟨w.heap.size + 1, 0, none⟩ (c + 1) (.int .i64 kb.1) (by simp; omega)).trans q2); have t0 := bx_cell h4 0 _ rfl; have t1 := bx_cell h4 1 _ rfl; clear h4; have r0'' := bx_cell q0 0 _ rfl; have r1'' := bx_cell q0 1 _ rfl; have rf'' := bx_froz q0; have a0'' := bx_cell q1 0 _ rfl; have a1'' := bx_cell q1 1 _ rfl; have b0'' := bx_cell q2 0 _ rfl; have b1'' := bx_cell q2 1 _ rfl; have Q4 := Lib.hid (And.intro q0 (And.intro q1 q2)); clear q0 q1 q2; clear HE))
  all_goals
    go_wp2
    obtain ⟨p1, p2⟩ := (H3.out.1).put2 (r := w.heap.size + 1) Q4.out.1 (by omega) (.int .i64 kb.1) (.int .i64 kb.2)
    have z0 := bx_cell p2 0 _ rfl
    have z1 := bx_cell p2 1 _ rfl
    have S := Lib.hid p1
    have T := Lib.hid ((Rpr.Chg.setCell ((Rpr.Chg.of_kept K3.out.drew).then H3.out.2) (p := ⟨w.heap.size + 1, 0, none⟩) (fun h => by simp at h; omega) (.int .i64 kb.1)).setCell (p := ⟨w.heap.size + 1, 1, none⟩) (fun h => by simp at h; omega) (.int .i64 kb.2))
    clear p1 p2 r0 r1 rf a0 a1 b0 b1 t0 t1 r0' r1' rf' a0' a1' b0' b1'
    simp [bodyPost, results, Try.f87, go_sem, z0, z1]
    exact Lib.hid ⟨S.out, T.out⟩
set_option maxRecDepth 100000 in
set_option maxHeartbeats 4000000 in
theorem openKid_no (H : Rk w0 w q lv mv bv ov obv l E g h e a) {i t : Nat} (hi : i < l.length) (ht : t < 2) (hp : Past l e (kidA l[i] t)) (hp2 : Past l e (kidB l[i] t)) : Calls Try.prog 87 #[.pointer (some ⟨q, 0, none⟩), spotV ((i : Int), t)] w fun x w' => x = .returned (.tuple #[spotV (kidB l[i] t), .bool false]) ∧ Kept w w' := by
  have hta := kidA_t l[i] ht
  have htb := kidB_t l[i] ht
  have HK := Lib.hid (fun w' (hk : Kept w w') => kids_any (H.keep hk) (t := t) hi)
  have HR := Lib.hid (fun w' (hk : Kept w w') => H.keep hk)
  have hlo := Below.size H.kept
  have HN := Lib.hid (fun w' (hk : Kept w w') => enter_no (H.keep hk) _ hta hp)
  have HM := Lib.hid (fun w' (hk : Kept w w') => enter_no (H.keep hk) _ htb hp2)
  clear hp hp2 hta htb H
  generalize kidA l[i] t = ka at *
  generalize kidB l[i] t = kb at *
  unfold spotV at *
  go_enter Try.func87, Try.ntmps87
  go_upto_region 1 with fail
  obtain ⟨x0, x1, kW⟩ := two w (.cells #[.int .i64 i, .int .i64 t] 139) (.cells #[.int .i64 0, .int .i64 0] 139)
  generalize ((w.alloc (.cells #[.int .i64 i, .int .i64 t] 139)).alloc (.cells #[.int .i64 0, .int .i64 0] 139)) = W at *
  have s0 := bx_cell x0 0 _ rfl
  have s1 := bx_cell x0 1 _ rfl
  have X := Lib.hid x1
  have KW := Lib.hid kW
  clear x0 x1 kW
  go_upto_region 2 with (go_at_call 95; refine (HK.out _ (by exact KW.out)).mono ?_; rintro e w1 ⟨rfl, k1⟩; have K1 := Lib.hid k1; clear k1)
  obtain ⟨y0, y1, kY⟩ := two w1 (.cells #[.int .i64 ka.1, .int .i64 ka.2] 139) (.cells #[.int .i64 kb.1, .int .i64 kb.2] 139)
  have K2 := Lib.hid (KW.out.trans (K1.out.trans kY))
  have Y := Lib.hid (And.intro (kh X.out (K1.out.trans kY)) (And.intro y0 y1))
  have hc : w.heap.size + 1 < w1.heap.size := Nat.lt_of_lt_of_le (Array.getElem?_eq_some_iff.1 X.out).1 (Below.size K1.out)
  clear y0 y1 kY X KW K1 s0 s1 HK
  generalize ((w1.alloc (.cells #[.int .i64 ka.1, .int .i64 ka.2] 139)).alloc (.cells #[.int .i64 kb.1, .int .i64 kb.2] 139)) = W1 at *
  generalize w1.heap.size = c at *
  have r0 := bx_cell Y.out.1 0 _ rfl
  have r1 := bx_cell Y.out.1 1 _ rfl
  have rf := bx_froz Y.out.1
  have a0 := bx_cell Y.out.2.1 0 _ rfl
  have a1 := bx_cell Y.out.2.1 1 _ rfl
  have b0 := bx_cell Y.out.2.2 0 _ rfl
  have b1 := bx_cell Y.out.2.2 1 _ rfl
  go_wp2_with (first | (go_at_call 85; refine (HN.out _ (by exact K2.out)).mono ?_; rintro e w2 ⟨rfl, k2⟩; have K3 := Lib.hid (K2.out.trans k2); have q0 := kh Y.out.1 k2; have q1 := kh Y.out.2.1 k2; have q2 := kh Y.out.2.2 k2; clear HN k2; have r0' := bx_cell q0 0 _ rfl; have r1' := bx_cell q0 1 _ rfl; have rf' := bx_froz q0; have a0' := bx_cell q1 0 _ rfl; have a1' := bx_cell q1 1 _ rfl; have b0' := bx_cell q2 0 _ rfl; have b1' := bx_cell q2 1 _ rfl; have Q3 := Lib.hid (And.intro q0 (And.intro q1 q2)); clear q0 q1 q2))
  go_region_held3 (fun w' => w'.cell? ⟨c + 1, 0, none⟩ = some (.int .i64 kb.1) ∧ w'.cell? ⟨c + 1, 1, none⟩ = some (.int .i64 kb.2)) (first | go_keep | exact ⟨b0', b1'⟩ | exact ⟨b0'', b1''⟩ | exact ⟨t0, t1⟩) (first | (go_at_call 85; refine (HM.out _ (by exact K3.out.drew)).mono ?_; rintro e w3 ⟨rfl, k3⟩; have K4 := Lib.hid (K3.out.drew.trans k3); have q0 := kh Q3.out.1 ((Kept.refl w2).drew.trans k3); have q1 := kh Q3.out.2.1 ((Kept.refl w2).drew.trans k3); have q2 := kh Q3.out.2.2 ((Kept.refl w2).drew.trans k3); have h4 := (heap_setCell_other _ ⟨w.heap.size + 1, 1, none⟩ (c + 1) (.int .i64 kb.2) (by simp; omega)).trans ((heap_setCell_other w3 ⟨w.heap.size + 1, 0, none⟩ (c + 1) (.int .i64 kb.1) (by simp; omega)).trans q2); have t0 := bx_cell h4 0 _ rfl; have t1 := bx_cell h4 1 _ rfl; clear h4; have r0'' := bx_cell q0 0 _ rfl; have r1'' := bx_cell q0 1 _ rfl; have rf'' := bx_froz q0; have a0'' := bx_cell q1 0 _ rfl; have a1'' := bx_cell q1 1 _ rfl; have b0'' := bx_cell q2 0 _ rfl; have b1'' := bx_cell q2 1 _ rfl; have Q4 := Lib.hid (And.intro q0 (And.intro q1 q2)); clear q0 q1 q2; clear HM k3))
  all_goals
    go_wp2
    obtain ⟨p1, p2, p3⟩ := put2 (w := w) (W := w3) (i := w.heap.size + 1) (.int .i64 kb.1) (.int .i64 kb.2) (by omega) K4.out Q4.out.1
    have z0 := bx_cell p1 0 _ rfl
    have z1 := bx_cell p1 1 _ rfl
    have S := Lib.hid p2
    clear p1 p2 p3 r0 r1 rf a0 a1 b0 b1 t0 t1 r0' r1' rf' a0' a1' b0' b1'
    simp [bodyPost, results, Try.f87, go_sem, z0, z1]
    exact S.out
end
end Go.Proofs.Ythjnkjekidagiaa.Evl
